/- Parts, put together: MtPure, MtRow, MtRef, MtRef2, MtRef3, MtTake, MtTake2. -/
import Derived.Test.YtklgdllllboipaaPLb1
import Derived.Test.YtklgdllllboipaaPRow

/- Matchers, plainly (layer 11): which are right, what they ask, their bytes, what is read. Names no function of the program. -/
section
set_option maxRecDepth 100000
namespace Go.Proofs.Ytklgdllllboipaa
open Go.RowKit Go.Sort
namespace Mt
open Bit Dsk Ob Dig
set_option linter.unusedVariables false

/-- A matcher: its kind, name, value. -/
abbrev M := Int × ByteArray × ByteArray
/-- What is wrong with one (0: nothing). -/
def right (m : M) : Nat := if m.1 < 1 ∨ 4 < m.1 then 5 else if Lb.nm m.2.1 = false ∨ (m.2.2.size ≠ 0 ∧ (Lb.vl m.2.2 = false ∨ m.1 = 4)) then 3 else 0
def first : List M → Nat
  | [] => 0
  | m :: l => if right m ≠ 0 then right m else first l
def chk (l : List M) : Nat := if 8 < l.length then 8 else first l
theorem first_nil : first [] = 0 := rfl
theorem first_bad {l : List M} {j : Nat} (hj : j < l.length) (h : right l[j] ≠ 0) : first (l.drop j) = right l[j] := by rw [List.drop_eq_getElem_cons hj, first, if_pos h]
theorem first_good {l : List M} {j : Nat} (hj : j < l.length) (h : right l[j] = 0) : first (l.drop j) = first (l.drop (j + 1)) := by rw [List.drop_eq_getElem_cons hj, first, if_neg (by simp [h])]
theorem first_end {l : List M} {j : Nat} (hj : ¬ j < l.length) : first (l.drop j) = 0 := by rw [List.drop_eq_nil_of_le (by omega)]; rfl
theorem first_zero : ∀ {l : List M}, first l = 0 ↔ ∀ m ∈ l, right m = 0
  | [] => by simp [first]
  | m :: l => by
    rw [first]
    by_cases h : right m = 0
    · rw [if_neg (by simp [h]), first_zero]; simp [h]
    · rw [if_pos h]; simp [h]
theorem chk_long {l : List M} (h : 8 < l.length) : chk l = 8 := if_pos h
theorem chk_few {l : List M} (h : ¬ 8 < l.length) : chk l = first l := if_neg h
theorem chk_zero {l : List M} : chk l = 0 ↔ l.length ≤ 8 ∧ ∀ m ∈ l, right m = 0 := by
  unfold chk
  by_cases h : 8 < l.length
  · rw [if_pos h]; simp; omega
  · rw [if_neg h, first_zero]; simp; omega
theorem right_zero {m : M} : right m = 0 ↔ 1 ≤ m.1 ∧ m.1 ≤ 4 ∧ Lb.nm m.2.1 = true ∧ (m.2.2.size ≠ 0 → Lb.vl m.2.2 = true ∧ m.1 ≠ 4) := by
  unfold right
  by_cases h1 : m.1 < 1 ∨ 4 < m.1
  · rw [if_pos h1]; simp; omega
  · rw [if_neg h1]
    by_cases h2 : Lb.nm m.2.1 = false ∨ (m.2.2.size ≠ 0 ∧ (Lb.vl m.2.2 = false ∨ m.1 = 4))
    · rw [if_pos h2]
      constructor
      · intro h; simp at h
      · rintro ⟨-, -, k1, k2⟩
        rcases h2 with h2 | ⟨h2, h3⟩
        · rw [k1] at h2; cases h2
        · have := k2 h2
          rcases h3 with h3 | h3
          · rw [this.1] at h3; cases h3
          · exact absurd h3 this.2
    · rw [if_neg h2]
      simp only [true_iff]
      refine ⟨by omega, by omega, ?_, fun h => ?_⟩
      · cases h : Lb.nm m.2.1 with
        | true => rfl
        | false => exact absurd (.inl h) h2
      · refine ⟨?_, fun e => h2 (.inr ⟨h, .inr e⟩)⟩
        cases h' : Lb.vl m.2.2 with
        | true => rfl
        | false => exact absurd (.inr ⟨h, .inl h'⟩) h2
theorem right_kind {m : M} (h : m.1 < 1 ∨ 4 < m.1) : right m = 5 := if_pos h
theorem right_field {m : M} (h1 : ¬ (m.1 < 1 ∨ 4 < m.1)) (h : Lb.nm m.2.1 = false ∨ (m.2.2.size ≠ 0 ∧ (Lb.vl m.2.2 = false ∨ m.1 = 4))) : right m = 3 := by rw [right, if_neg h1, if_pos h]
theorem right_ok {m : M} (h1 : ¬ (m.1 < 1 ∨ 4 < m.1)) (h : ¬ (Lb.nm m.2.1 = false ∨ (m.2.2.size ≠ 0 ∧ (Lb.vl m.2.2 = false ∨ m.1 = 4)))) : right m = 0 := by rw [right, if_neg h1, if_neg h]
theorem right_small {m : M} (h : right m = 0) : m.2.1.size ≤ 32 ∧ m.2.2.size ≤ 64 := by
  obtain ⟨-, -, h1, h2⟩ := right_zero.1 h
  refine ⟨(Lb.nm_size h1).2, ?_⟩
  by_cases h0 : m.2.2.size = 0
  · omega
  · exact (Lb.vl_size (h2 h0).1).2

/-! ### what is asked -/
/-- v begins with p. -/
def pre (p v : ByteArray) : Bool := decide (p.size ≤ v.size) && decide (v.extract 0 p.size = p)
def holds (m : M) (v : ByteArray) : Bool := if m.1 = 1 then decide (v = m.2.2) else if m.1 = 2 then !decide (v = m.2.2) else if m.1 = 3 then pre m.2.2 v else !decide (v.size = 0)
def all (l : List M) (a : List Lb.Pr) : Bool := l.all fun m => holds m (Lb.get a m.2.1)
def is (l : List M) (a : List Lb.Pr) : Bool := decide (chk l = 0) && all l a
theorem is_no {l : List M} {a : List Lb.Pr} (h : chk l ≠ 0) : is l a = false := by rw [is, decide_eq_false h]; rfl
theorem is_all {l : List M} {a : List Lb.Pr} (h : chk l = 0) : is l a = all l a := by rw [is, decide_eq_true h]; rfl
theorem all_yes {l : List M} {a : List Lb.Pr} {j : Nat} (hj : j < l.length) (h : holds l[j] (Lb.get a l[j].2.1) = true) : all (l.drop j) a = all (l.drop (j + 1)) a := by
  rw [List.drop_eq_getElem_cons hj]; simp only [all, List.all_cons, h, Bool.true_and]
theorem all_not {l : List M} {a : List Lb.Pr} {j : Nat} (hj : j < l.length) (h : holds l[j] (Lb.get a l[j].2.1) = false) : all (l.drop j) a = false := by
  rw [List.drop_eq_getElem_cons hj]; simp only [all, List.all_cons, h, Bool.false_and]
theorem all_end {l : List M} {a : List Lb.Pr} {j : Nat} (hj : ¬ j < l.length) : all (l.drop j) a = true := by rw [List.drop_eq_nil_of_le (by omega)]; rfl
theorem is_more {l m : List M} {a : List Lb.Pr} (h : is (l ++ m) a = true) : is l a = true ∧ is m a = true := by
  rw [is, Bool.and_eq_true, decide_eq_true_eq, chk_zero] at h
  obtain ⟨⟨h1, h2⟩, h3⟩ := h
  rw [List.length_append] at h1
  rw [all, List.all_append, Bool.and_eq_true] at h3
  refine ⟨?_, ?_⟩
  · rw [is, Bool.and_eq_true, decide_eq_true_eq, chk_zero]
    exact ⟨⟨by omega, fun x hx => h2 x (List.mem_append_left _ hx)⟩, h3.1⟩
  · rw [is, Bool.and_eq_true, decide_eq_true_eq, chk_zero]
    exact ⟨⟨by omega, fun x hx => h2 x (List.mem_append_right _ hx)⟩, h3.2⟩
theorem chk_one (m : M) : chk [m] = right m := by
  rw [chk_few (by simp), first]
  by_cases h : right m = 0
  · rw [if_neg (by simp [h]), h]; rfl
  · rw [if_pos h]
theorem is_one {m : M} {a : List Lb.Pr} (h : right m = 0) : is [m] a = holds m (Lb.get a m.2.1) := by
  rw [is_all (by rw [chk_one, h])]; simp [all]
/-- Of a matcher and its opposite. -/
theorem right_12 (n v : ByteArray) : right ((1 : Int), n, v) = right ((2 : Int), n, v) := by
  unfold right
  simp
theorem opposite {n v : ByteArray} {a : List Lb.Pr} (h : right ((1 : Int), n, v) = 0) : is [((1 : Int), n, v)] a = !is [((2 : Int), n, v)] a := by
  rw [is_one h, is_one (by rw [← right_12]; exact h)]
  simp [holds]

/-! ### their bytes -/
def mB (m : M) : List UInt8 := numL m.1.toNat ++ Lb.pB m.2
def encB (l : List M) : List UInt8 := numL l.length ++ l.flatMap mB
theorem mB_len {m : M} (h1 : m.2.1.size ≤ 32) (h2 : m.2.2.size ≤ 64) : (mB m).length ≤ 123 := by
  have a := nd_le m.1.toNat
  have b := Lb.pB_len h1 h2
  rw [mB, List.length_append, numL_length]; omega
theorem flat_len : ∀ {l : List M}, (∀ m ∈ l, right m = 0) → (l.flatMap mB).length ≤ 123 * l.length
  | [], _ => by simp
  | m :: l, h => by
    have h0 := right_small (h m (by simp))
    have h1 := mB_len h0.1 h0.2
    have h2 := flat_len (l := l) fun q hq => h q (by simp [hq])
    rw [List.flatMap_cons, List.length_append, List.length_cons]; omega
theorem encB_len {l : List M} (h : chk l = 0) : (encB l).length ≤ 1000 := by
  obtain ⟨h1, h2⟩ := chk_zero.1 h
  have h3 := flat_len h2
  have h4 := nd_le l.length
  rw [encB, List.length_append, numL_length]; omega

/-! ### reading -/
/-- The next matcher: what it is, what is left, the error. -/
def one (s : List UInt8) : M × List UInt8 × Nat :=
  if (gotN s).2.2 ≠ 0 then ((0, ByteArray.empty, ByteArray.empty), s, (gotN s).2.2) else if 4 < (gotN s).1 then ((0, ByteArray.empty, ByteArray.empty), s, 5) else
  if (Lb.txt 32 (s.drop (gotN s).2.1)).2.2 ≠ 0 then ((0, ByteArray.empty, ByteArray.empty), s, (Lb.txt 32 (s.drop (gotN s).2.1)).2.2) else
  if (Lb.txt 64 (Lb.txt 32 (s.drop (gotN s).2.1)).2.1).2.2 ≠ 0 then ((0, ByteArray.empty, ByteArray.empty), s, (Lb.txt 64 (Lb.txt 32 (s.drop (gotN s).2.1)).2.1).2.2) else
  ((((gotN s).1 : Int), (Lb.txt 32 (s.drop (gotN s).2.1)).1, (Lb.txt 64 (Lb.txt 32 (s.drop (gotN s).2.1)).2.1).1), (Lb.txt 64 (Lb.txt 32 (s.drop (gotN s).2.1)).2.1).2.1, 0)
theorem one_num {s : List UInt8} {n k e : Nat} (h : gotN s = (n, k, e)) (he : e ≠ 0) : (one s).2.2 = e := by unfold one; rw [h]; simp [he]
theorem one_kind {s : List UInt8} {n k : Nat} (h : gotN s = (n, k, 0)) (hn : 4 < n) : (one s).2.2 = 5 := by unfold one; rw [h]; simp [hn]
theorem one_name {s r1 : List UInt8} {n k e : Nat} {a : ByteArray} (h : gotN s = (n, k, 0)) (hn : ¬ 4 < n) (h1 : Lb.txt 32 (s.drop k) = (a, r1, e)) (he : e ≠ 0) : (one s).2.2 = e := by
  unfold one; rw [h]; simp only [ne_eq, not_true_eq_false, if_false]; rw [if_neg hn, h1]; simp [he]
theorem one_value {s r1 r2 : List UInt8} {n k e : Nat} {a b : ByteArray} (h : gotN s = (n, k, 0)) (hn : ¬ 4 < n) (h1 : Lb.txt 32 (s.drop k) = (a, r1, 0)) (h2 : Lb.txt 64 r1 = (b, r2, e)) (he : e ≠ 0) : (one s).2.2 = e := by
  unfold one; rw [h]; simp only [ne_eq, not_true_eq_false, if_false]; rw [if_neg hn, h1]; simp only [not_true_eq_false, if_false]; rw [h2]; simp [he]
theorem one_ok {s r1 r2 : List UInt8} {n k : Nat} {a b : ByteArray} (h : gotN s = (n, k, 0)) (hn : ¬ 4 < n) (h1 : Lb.txt 32 (s.drop k) = (a, r1, 0)) (h2 : Lb.txt 64 r1 = (b, r2, 0)) : one s = (((n : Int), a, b), r2, 0) := by
  unfold one; rw [h]; simp only [ne_eq, not_true_eq_false, if_false]; rw [if_neg hn, h1]; simp only [not_true_eq_false, if_false]; rw [h2]; simp
def many : Nat → List UInt8 → List M × List UInt8 × Nat
  | 0, s => ([], s, 0)
  | n + 1, s => if (one s).2.2 ≠ 0 then ([], s, (one s).2.2) else ((one s).1 :: (many n (one s).2.1).1, (many n (one s).2.1).2)
/-- So many are read of s: the first ones are l, r is left. -/
def Read (n : Nat) (s : List UInt8) (j : Nat) (l : List M) (r : List UInt8) : Prop := j ≤ n ∧ l.length = j ∧ many n s = (l ++ (many (n - j) r).1, (many (n - j) r).2)
theorem Read.start (n : Nat) (s : List UInt8) : Read n s 0 [] s := ⟨Nat.zero_le _, rfl, by simp⟩
theorem Read.step {n : Nat} {s : List UInt8} {j : Nat} {l : List M} {r r1 : List UInt8} {m : M} (h : Read n s j l r) (hj : j < n) (h1 : one r = (m, r1, 0)) : Read n s (j + 1) (l ++ [m]) r1 := by
  obtain ⟨k1, k2, k3⟩ := h
  refine ⟨hj, by simp [k2], ?_⟩
  rw [k3, show n - j = n - (j + 1) + 1 by omega, many, h1]
  simp
theorem Read.bad {n : Nat} {s : List UInt8} {j : Nat} {l : List M} {r : List UInt8} {e : Nat} (h : Read n s j l r) (hj : j < n) (h1 : (one r).2.2 = e) (he : e ≠ 0) : (many n s).2.2 = e := by
  obtain ⟨k1, k2, k3⟩ := h
  rw [k3, show n - j = n - (j + 1) + 1 by omega, many, h1]
  simp [he]
theorem Read.last {n : Nat} {s : List UInt8} {j : Nat} {l : List M} {r : List UInt8} (h : Read n s j l r) (hj : ¬ j < n) : many n s = (l, r, 0) := by
  obtain ⟨k1, k2, k3⟩ := h
  rw [k3, show n - j = 0 by omega]
  simp [many]
/-- The matchers at the front: what they are, what is left, the error. -/
def tk (s : List UInt8) : List M × List UInt8 × Nat :=
  if (gotN s).2.2 ≠ 0 then ([], s, (gotN s).2.2) else if 8 < (gotN s).1 then ([], s, 8) else
  if (many (gotN s).1 (s.drop (gotN s).2.1)).2.2 ≠ 0 then ([], s, (many (gotN s).1 (s.drop (gotN s).2.1)).2.2) else
  if chk (many (gotN s).1 (s.drop (gotN s).2.1)).1 ≠ 0 then ([], s, chk (many (gotN s).1 (s.drop (gotN s).2.1)).1) else
  ((many (gotN s).1 (s.drop (gotN s).2.1)).1, (many (gotN s).1 (s.drop (gotN s).2.1)).2.1, 0)
theorem tk_num {s : List UInt8} {n k e : Nat} (h : gotN s = (n, k, e)) (he : e ≠ 0) : tk s = ([], s, e) := by unfold tk; rw [h]; simp [he]
theorem tk_long {s : List UInt8} {n k : Nat} (h : gotN s = (n, k, 0)) (hn : 8 < n) : tk s = ([], s, 8) := by unfold tk; rw [h]; simp [hn]
theorem tk_bad {s : List UInt8} {n k e : Nat} (h : gotN s = (n, k, 0)) (hn : ¬ 8 < n) (hp : (many n (s.drop k)).2.2 = e) (he : e ≠ 0) : tk s = ([], s, e) := by
  unfold tk; rw [h]; simp only [ne_eq, not_true_eq_false, if_false]; rw [if_neg hn, hp, if_pos he]
theorem tk_chk {s : List UInt8} {n k : Nat} {l : List M} {r : List UInt8} (h : gotN s = (n, k, 0)) (hn : ¬ 8 < n) (hp : many n (s.drop k) = (l, r, 0)) (hl : chk l ≠ 0) : tk s = ([], s, chk l) := by
  unfold tk; rw [h]; simp only [ne_eq, not_true_eq_false, if_false]; rw [if_neg hn, hp]; simp [hl]
theorem tk_ok {s : List UInt8} {n k : Nat} {l : List M} {r : List UInt8} (h : gotN s = (n, k, 0)) (hn : ¬ 8 < n) (hp : many n (s.drop k) = (l, r, 0)) (hl : chk l = 0) : tk s = (l, r, 0) := by
  unfold tk; rw [h]; simp only [ne_eq, not_true_eq_false, if_false]; rw [if_neg hn, hp]; simp [hl]

/-! ### back -/
theorem one_mB {m : M} (h : right m = 0) (r : List UInt8) : one (mB m ++ r) = (m, r, 0) := by
  obtain ⟨h1, h2, h3, h4⟩ := right_zero.1 h
  have hs := right_small h
  have hg : gotN (mB m ++ r) = (m.1.toNat, nd m.1.toNat + 1, 0) := by rw [mB, List.append_assoc]; exact got_num _ (by omega) _
  have hd : (mB m ++ r).drop (nd m.1.toNat + 1) = numL m.2.1.size ++ m.2.1.data.toList ++ (numL m.2.2.size ++ m.2.2.data.toList ++ r) := by
    rw [mB, List.append_assoc, ← numL_length, List.drop_left, Lb.pB]; simp [List.append_assoc]
  have e := one_ok hg (by omega) (by rw [hd]; exact Lb.txt_text m.2.1 32 _ (by omega) (by omega)) (Lb.txt_text m.2.2 64 r (by omega) (by omega))
  rw [e]
  have e1 : ((m.1.toNat : Nat) : Int) = m.1 := by omega
  rw [e1]
theorem many_flat : ∀ (l : List M) (r : List UInt8), (∀ m ∈ l, right m = 0) → many l.length (l.flatMap mB ++ r) = (l, r, 0)
  | [], r, _ => by simp [many]
  | m :: l, r, h => by
    have e : (m :: l).flatMap mB ++ r = mB m ++ (l.flatMap mB ++ r) := by rw [List.flatMap_cons, List.append_assoc]
    have ih := many_flat l r fun q hq => h q (by simp [hq])
    rw [e, List.length_cons, many, one_mB (h m (by simp))]
    simp only [ne_eq, not_true_eq_false, if_false]
    rw [ih]
theorem tk_enc {l : List M} (h : chk l = 0) (r : List UInt8) : tk (encB l ++ r) = (l, r, 0) := by
  obtain ⟨h1, h2⟩ := chk_zero.1 h
  have hg : gotN (encB l ++ r) = (l.length, nd l.length + 1, 0) := by rw [encB, List.append_assoc]; exact got_num _ (by omega) _
  have hd : (encB l ++ r).drop (nd l.length + 1) = l.flatMap mB ++ r := by rw [encB, List.append_assoc, ← numL_length, List.drop_left]
  exact tk_ok hg (by omega) (by rw [hd]; exact many_flat l r h2) h
theorem one_back {s r : List UInt8} {m : M} (h : one s = (m, r, 0)) : s = mB m ++ r := by
  obtain ⟨n, k, e, hg⟩ : ∃ n k e, gotN s = (n, k, e) := ⟨_, _, _, rfl⟩
  have h0 : (one s).2.2 = 0 := by rw [h]
  by_cases he : e = 0
  · subst he
    by_cases hn : 4 < n
    · rw [one_kind hg hn] at h0; cases h0
    obtain ⟨⟨a, r1, e1⟩, h1⟩ : ∃ x, Lb.txt 32 (s.drop k) = x := ⟨_, rfl⟩
    by_cases he1 : e1 = 0
    · subst he1
      obtain ⟨⟨b, r2, e2⟩, h2⟩ : ∃ x, Lb.txt 64 r1 = x := ⟨_, rfl⟩
      by_cases he2 : e2 = 0
      · subst he2
        rw [one_ok hg hn h1 h2] at h
        have hm := (Prod.mk.inj h).1
        have hr := (Prod.mk.inj (Prod.mk.inj h).2).1
        clear h
        subst hm hr
        have hn0 := num_got s (by rw [hg])
        rw [hg] at hn0
        have e1 := Lb.txt_ok h1
        have e2 := Lb.txt_ok h2
        rw [mB, Lb.pB]
        simp only [Int.toNat_natCast]
        rw [hn0.1]
        have hs := (List.take_append_drop k s).symm
        rw [e1, e2] at hs
        exact hs.trans (by simp [List.append_assoc])
      · rw [one_value hg hn h1 h2 he2] at h0; exact absurd h0 he2
    · rw [one_name hg hn h1 he1] at h0; exact absurd h0 he1
  · rw [one_num hg he] at h0; exact absurd h0 he
theorem many_back : ∀ {n : Nat} {s r : List UInt8} {l : List M}, many n s = (l, r, 0) → s = l.flatMap mB ++ r ∧ l.length = n
  | 0, s, r, l, h => by
    rw [many] at h
    obtain ⟨h1, h2⟩ := Prod.mk.inj h
    obtain ⟨h2, -⟩ := Prod.mk.inj h2
    subst h1 h2; exact ⟨rfl, rfl⟩
  | n + 1, s, r, l, h => by
    obtain ⟨⟨m, r1, e1⟩, h1⟩ : ∃ x, one s = x := ⟨_, rfl⟩
    rw [many, h1] at h
    by_cases c1 : e1 = 0
    · subst c1
      simp only [ne_eq, not_true_eq_false, if_false] at h
      obtain ⟨⟨l', r', e'⟩, h3⟩ : ∃ x, many n r1 = x := ⟨_, rfl⟩
      rw [h3] at h
      obtain ⟨k1, k2⟩ := Prod.mk.inj h
      obtain ⟨k2, k3⟩ := Prod.mk.inj k2
      simp only at k1 k2 k3
      subst k1 k2 k3
      obtain ⟨i1, i2⟩ := many_back h3
      refine ⟨?_, by simp [i2]⟩
      rw [one_back h1, i1, List.flatMap_cons, List.append_assoc]
    · simp [c1] at h
theorem tk_back {s r : List UInt8} {l : List M} (h : tk s = (l, r, 0)) : chk l = 0 ∧ encB l ++ r = s := by
  have h0 : (tk s).2.2 = 0 := by rw [h]
  obtain ⟨n, k, e, hg⟩ : ∃ n k e, gotN s = (n, k, e) := ⟨_, _, _, rfl⟩
  by_cases he : e = 0
  · subst he
    by_cases hn : 8 < n
    · rw [tk_long hg hn] at h0; cases h0
    obtain ⟨⟨l', r', e'⟩, h3⟩ : ∃ x, many n (s.drop k) = x := ⟨_, rfl⟩
    by_cases he' : e' = 0
    · subst he'
      by_cases hc : chk l' = 0
      · rw [tk_ok hg hn h3 hc] at h
        have hm := (Prod.mk.inj h).1
        have hr := (Prod.mk.inj (Prod.mk.inj h).2).1
        clear h
        subst hm hr
        obtain ⟨i1, i2⟩ := many_back h3
        have hn0 := num_got s (by rw [hg])
        rw [hg] at hn0
        refine ⟨hc, ?_⟩
        rw [encB, i2, hn0.1, List.append_assoc, ← i1, List.take_append_drop]
      · rw [tk_chk hg hn h3 hc] at h0; exact absurd h0 hc
    · rw [tk_bad hg hn (by rw [h3]) he'] at h0; exact absurd h0 he'
  · rw [tk_num hg he] at h0; exact absurd h0 he
theorem tk_none {s r : List UInt8} {l : List M} {e : Nat} (h : tk s = (l, r, e)) (he : e ≠ 0) : l = [] := by
  unfold tk at h
  repeat' (split at h)
  all_goals first
    | exact (Prod.mk.inj h).1.symm
    | exact absurd (Prod.mk.inj (Prod.mk.inj h).2).2.symm he
end Mt
end Go.Proofs.Ytklgdllllboipaa
end

/- Rows of matchers in memory (layer 11); a row of matchers among the arguments. -/
section
set_option maxRecDepth 100000
namespace Go.Proofs.Ytklgdllllboipaa
open Go.RowKit Go.ChangeShapes Go.WideShapes
namespace Mt
open Bit Dsk Ob Dig
set_option linter.unusedVariables false

def layM : Rw.Lay M := ⟨3, by decide, fun m => [.int .i64 m.1, .string m.2.1, .string m.2.2], fun _ => rfl, fun m u hu => by
  simp only [List.mem_cons, List.not_mem_nil, or_false] at hu
  rcases hu with rfl | rfl | rfl <;> rfl⟩
abbrev All : Nat → Prop := fun _ => True
/-- v reads as the matchers l, out of a block of S. -/
abbrev View := Rw.View layM
/-- v owns the matchers l. -/
abbrev Mine := Rw.Mine layM 41
theorem typM : Rw.Typ layM 26 41 40 := Rw.Typ.mk' (z := .agg #[.int .i64 0, .string ByteArray.empty, .string ByteArray.empty]) Try.underlying26 (by kernel_rfl) rfl
theorem View.cells {w : World} {S : Nat → Prop} {A : Option Addr} {n c : Nat} {l : List M} (h : View w S (.slice A n c) l) (hp : 0 < l.length) : ∃ b off, A = some ⟨b, off, none⟩ ∧ S b ∧ b < w.heap.size ∧
    ∀ i (hi : i < l.length), w.cell? ⟨b, off + i * 3, none⟩ = some (.int .i64 l[i].1) ∧ w.cell? ⟨b, off + i * 3 + 1, none⟩ = some (.string l[i].2.1) ∧ w.cell? ⟨b, off + i * 3 + 2, none⟩ = some (.string l[i].2.2) := by
  obtain ⟨b, off, h1, h2, h3, h4⟩ := Rw.View.open h hp
  exact ⟨b, off, h1, h2, h3, fun i hi => ⟨h4 i hi 0 _ rfl, h4 i hi 1 _ rfl, h4 i hi 2 _ rfl⟩⟩
theorem view_of {w : World} {S : Nat → Prop} {b off c : Nat} {l : List M} (hc : l.length ≤ c) (hm : c ≤ maxLen) (hS : S b) (h : ∀ i (hi : i < l.length), w.cell? ⟨b, off + i * 3, none⟩ = some (.int .i64 l[i].1) ∧ w.cell? ⟨b, off + i * 3 + 1, none⟩ = some (.string l[i].2.1) ∧ w.cell? ⟨b, off + i * 3 + 2, none⟩ = some (.string l[i].2.2)) : View w S (.slice (some ⟨b, off, none⟩) l.length c) l :=
  ⟨_, c, rfl, hc, hm, fun _ => ⟨b, off, rfl, hS, fun i hi t u ht => by
    obtain ⟨h0, h1, h2⟩ := h i hi
    match t, ht with
    | 0, ht => obtain rfl : Value.int .i64 l[i].1 = u := by simpa [layM] using ht
               exact h0
    | 1, ht => obtain rfl : Value.string l[i].2.1 = u := by simpa [layM] using ht
               exact h1
    | 2, ht => obtain rfl : Value.string l[i].2.2 = u := by simpa [layM] using ht
               exact h2
    | t + 3, ht => simp [layM] at ht⟩⟩
/-- One matcher, laid. -/
theorem view_one {w : World} {g : Nat} {k : Int} {x y : ByteArray} (h : w.heap[g]? = some (.cells #[.int .i64 k, .string x, .string y] 41 (0, 0))) : View w All (.slice (some ⟨g, 0, none⟩) 1 1) [(k, x, y)] :=
  view_of (l := [(k, x, y)]) (c := 1) (Nat.le_refl _) (by unfold maxLen; decide) trivial fun i hi => by
    have : i = 0 := by simpa using hi
    subst this
    exact ⟨by rw [Lib.cell_of_heap h]; rfl, by rw [Lib.cell_of_heap h]; rfl, by rw [Lib.cell_of_heap h]; rfl⟩
def Bnd1 (m : M) : Prop := -9223372036854775808 ≤ m.1 ∧ m.1 ≤ 9223372036854775807 ∧ m.2.1.size ≤ 9223372036854775807 ∧ m.2.2.size ≤ 9223372036854775807
def Bnd (l : List M) : Prop := ∀ m ∈ l, Bnd1 m
/-- A row of matchers that came in, of at most so many bytes. -/
def IsMsN (N : Nat) (v : Value) (w : World) : Prop := ∃ l, View w All v l ∧ Bnd l ∧ l.length * 40 ≤ N
/-- A row of matchers that came in. -/
abbrev IsMs (v : Value) (w : World) : Prop := IsMsN 140737488351232 v w
theorem lit64 {k : Int} (h : (Lit.int .i64 k).wf = true) : -9223372036854775808 ≤ k ∧ k ≤ 9223372036854775807 := by
  simp [Lit.wf, IntKind.min, IntKind.max, IntKind.signed, IntKind.bits] at h
  exact ⟨by omega, by omega⟩
/-- One matcher, opened. -/
theorem open_m {H : Type} {enc : TypeId × Value → H} {W : World} {fuel : Nat} {cs : List Value} {x : DataW H × List MemPlace} (hl : cs.length = 3) (h : DataW.trod enc Try.prog W 0 (fun _ => true) true fuel 41 cs = some x) : ∃ m : M, cs = layM.enc m ∧ Bnd1 m := by
  have ci : Try.prog.cellsOf 3 = 1 := by kernel_rfl
  have cs' : Try.prog.cellsOf 9 = 1 := by kernel_rfl
  obtain ⟨xs, k, hk, hxy, _, hxl, hfd⟩ := DataW.trod_struct Try.underlying41 h
  match xs, hxl, cs, hl with
  | [y0, y1, y2], _, [v0, v1, v2], _ =>
    have g0 := hfd 0 _ rfl
    have g1 := hfd 1 _ rfl
    have g2 := hfd 2 _ rfl
    simp [ci, cs'] at g0 g1 g2
    obtain ⟨k0, e0, _, w0⟩ := DataW.trod_int Try.underlying3 g0
    obtain ⟨s1, e1, _, z1⟩ := DataW.trod_string Try.underlying9 g1
    obtain ⟨s2, e2, _, z2⟩ := DataW.trod_string Try.underlying9 g2
    obtain rfl := (List.cons.inj e0).1
    obtain rfl := (List.cons.inj e1).1
    obtain rfl := (List.cons.inj e2).1
    unfold maxLen at z1 z2
    exact ⟨(k0, s1, s2), rfl, (lit64 w0).1, (lit64 w0).2, by simp only; omega, by simp only; omega⟩
theorem open_msN {H : Type} {enc : TypeId × Value → H} {W : World} {base : Nat} {v : Value} {d : DataW H} {p : List MemPlace} {N : Nat}
    (hv : Value.okWide Try.prog W .any base 26 v) (h : DataW.Trod enc Try.prog W 0 (fun _ => true) true 26 v d p)
    (hz : ∀ e s, d = .slice e s → (e.length + s.length) * Try.prog.bytesOf 41 ≤ N) : IsMsN N v W :=
  Rw.open_row (L := layM) (G := Bnd1) Try.underlying26 (by kernel_rfl) (by kernel_rfl) (fun _ _ _ hl h => open_m hl h) hv h hz
theorem open_ms {H : Type} {enc : TypeId × Value → H} {W : World} {base : Nat} {v : Value} {d : DataW H} {p : List MemPlace}
    (hv : Value.okWide Try.prog W .any base 26 v) (h : DataW.Trod enc Try.prog W 0 (fun _ => true) true 26 v d p)
    (hz : ∀ e s, d = .slice e s → (e.length + s.length) * Try.prog.bytesOf 41 ≤ reachBytes) : IsMs v W := open_msN hv h hz
end Mt
end Go.Proofs.Ytklgdllllboipaa
end

/- The document's own matchers (layer 11): right, Check, holds, Is, Same. -/
section
set_option maxRecDepth 100000
namespace Go.Proofs.Ytklgdllllboipaa
open Go.RowKit Go.Sort
namespace Mt
open Bit Dsk Ob Dig
set_option linter.unusedVariables false

def mv (m : M) : Value := .agg #[.int .i64 m.1, .string m.2.1, .string m.2.2]
theorem emp_yes {v : ByteArray} (h : v.size = 0) : (v.toList == []) = true := by
  rw [beq_iff_eq, ByteArray.toList_eq, ← List.length_eq_zero_iff]; simpa using h
theorem emp_no {v : ByteArray} (h : v.size ≠ 0) : (v.toList == []) = false := by
  rw [beq_eq_false_iff_ne]; intro e
  rw [ByteArray.toList_eq] at e
  have h4 : v.data.toList.length = v.size := by simp
  rw [e, List.length_nil] at h4
  exact h h4.symm
theorem right_emp {k : Int} {n v : ByteArray} (ck : ¬ (k < 1 ∨ 4 < k)) (hn : Lb.nm n = true) (h0 : v.size = 0) : right (k, n, v) = 0 := right_ok ck fun h => by
  rcases h with h | ⟨h, -⟩
  · rw [show Lb.nm (k, n, v).2.1 = true from hn] at h; cases h
  · exact h h0
theorem right_val {k : Int} {n v : ByteArray} (ck : ¬ (k < 1 ∨ 4 < k)) (hn : Lb.nm n = true) (hv : Lb.vl v = true) (h4 : k ≠ 4) : right (k, n, v) = 0 := right_ok ck fun h => by
  rcases h with h | ⟨-, h | h⟩
  · rw [show Lb.nm (k, n, v).2.1 = true from hn] at h; cases h
  · rw [show Lb.vl (k, n, v).2.2 = true from hv] at h; cases h
  · exact h4 h
set_option maxHeartbeats 3200000 in
theorem refright_any (w : World) (m : M) (hb : Bnd1 m) :
    Calls Try.prog 60 #[mv m] w fun e w' => e = .returned (.int .i64 (right m : Int)) ∧ New0 w w' := by
  obtain ⟨k, n, v⟩ := m
  obtain ⟨-, -, hn, hv⟩ := hb
  simp only at hn hv
  unfold mv
  have hU := Lib.hid ((Upon.refl (fun _ => False) w).alloc (.cells #[.int .i64 k, .string n, .string v] 41 (0, 0)))
  by_cases c1 : k < 1
  · have hR : Hid ((5 : Int) = (right (k, n, v) : Int)) := Lib.hid (by rw [right_kind (.inl c1)]; rfl)
    go_enter Try.func60, Try.ntmps60
    go_wp2_with fail
    go_ret
    exact ⟨Lb.ret_i hR.out, hU.out⟩
  by_cases c4 : 4 < k
  · have hR : Hid ((5 : Int) = (right (k, n, v) : Int)) := Lib.hid (by rw [right_kind (.inr c4)]; rfl)
    go_enter Try.func60, Try.ntmps60
    go_wp2_with fail
    go_ret
    exact ⟨Lb.ret_i hR.out, hU.out⟩
  have ck : ¬ (k < 1 ∨ 4 < k) := by omega
  have HN := Lib.hid (fun w => Lb.refname_any n hn w)
  have HV := Lib.hid (fun w => Lb.refvalue_any v hv w)
  cases hnm : Lb.nm n with
  | false =>
    have hR : Hid ((3 : Int) = (right (k, n, v) : Int)) := Lib.hid (by rw [right_field ck (.inl hnm)]; rfl)
    rw [hnm] at HN
    clear HV hnm ck
    go_enter Try.func60, Try.ntmps60
    go_wp2_with fail
    refine (HN.out _).mono ?_
    rintro e w2 ⟨rfl, n2, rfl⟩
    clear HN
    go_wp2_with fail
    go_ret
    exact ⟨Lb.ret_i hR.out, hU.out.trans (upon_drewN _ _ n2)⟩
  | true =>
    by_cases h0 : v.size = 0
    · have hR : Hid ((0 : Int) = (right (k, n, v) : Int)) := Lib.hid (by rw [right_emp ck hnm h0]; rfl)
      have d0 := emp_yes h0
      rw [hnm] at HN
      clear HV hnm ck
      go_enter Try.func60, Try.ntmps60
      go_wp2_with fail
      refine (HN.out _).mono ?_
      rintro e w2 ⟨rfl, n2, rfl⟩
      clear HN
      go_wp2_with fail
      all_goals
        go_ret
        exact ⟨Lb.ret_i hR.out, ((Upon.refl _ w).alloc _).trans (upon_drewN _ _ n2)⟩
    · have d0 := emp_no h0
      cases hvl : Lb.vl v with
      | false =>
        have hR : Hid ((3 : Int) = (right (k, n, v) : Int)) := Lib.hid (by rw [right_field ck (.inr ⟨h0, .inl hvl⟩)]; rfl)
        rw [hnm] at HN
        rw [hvl] at HV
        clear hnm ck hvl
        go_enter Try.func60, Try.ntmps60
        go_wp2_with fail
        refine (HN.out _).mono ?_
        rintro e w2 ⟨rfl, n2, rfl⟩
        clear HN
        go_wp2_with fail
        refine (HV.out _).mono ?_
        rintro e w3 ⟨rfl, n3, rfl⟩
        clear HV
        go_wp2_with fail
        go_ret
        exact ⟨Lb.ret_i hR.out, by first | exact (hU.out.trans (upon_drewN _ _ n2)).trans (upon_drewN _ _ n3) | exact hU.out.trans (upon_drewN _ _ (n2 + n3))⟩
      | true =>
        by_cases h4 : k = 4
        · have hR : Hid ((3 : Int) = (right (k, n, v) : Int)) := Lib.hid (by rw [right_field ck (.inr ⟨h0, .inr h4⟩)]; rfl)
          have e4 : (k == 4) = true := by rw [h4]; rfl
          rw [hnm] at HN
          rw [hvl] at HV
          clear hnm ck hvl h4
          go_enter Try.func60, Try.ntmps60
          go_wp2_with fail
          refine (HN.out _).mono ?_
          rintro e w2 ⟨rfl, n2, rfl⟩
          clear HN
          go_wp2_with fail
          refine (HV.out _).mono ?_
          rintro e w3 ⟨rfl, n3, rfl⟩
          clear HV
          go_wp2_with fail
          go_ret
          exact ⟨Lb.ret_i hR.out, by first | exact (hU.out.trans (upon_drewN _ _ n2)).trans (upon_drewN _ _ n3) | exact hU.out.trans (upon_drewN _ _ (n2 + n3))⟩
        · have hR : Hid ((0 : Int) = (right (k, n, v) : Int)) := Lib.hid (by rw [right_val ck hnm hvl h4]; rfl)
          have e4 : (k == 4) = false := by rw [beq_eq_false_iff_ne]; exact h4
          rw [hnm] at HN
          rw [hvl] at HV
          clear hnm ck hvl h4
          go_enter Try.func60, Try.ntmps60
          go_wp2_with fail
          refine (HN.out _).mono ?_
          rintro e w2 ⟨rfl, n2, rfl⟩
          clear HN
          go_wp2_with fail
          refine (HV.out _).mono ?_
          rintro e w3 ⟨rfl, n3, rfl⟩
          clear HV
          go_wp2_with fail
          go_ret
          exact ⟨Lb.ret_i hR.out, by first | exact (hU.out.trans (upon_drewN _ _ n2)).trans (upon_drewN _ _ n3) | exact hU.out.trans (upon_drewN _ _ (n2 + n3))⟩
set_option maxHeartbeats 1600000 in
theorem refcheck_any (w : World) (S : Nat → Prop) (v : Value) (l : List M) (hv : View w S v l) (hb : Bnd l) :
    Calls Try.prog 45 #[v] w fun e w' => e = .returned (.int .i64 (chk l : Int)) ∧ New0 w w' := by
  obtain ⟨A, c, rfl, -, -⟩ := Rw.View.shape hv
  replace hv := Lib.hid hv
  replace hb := Lib.hid hb
  by_cases h8 : 8 < l.length
  · have hR : Hid ((8 : Int) = (chk l : Int)) := Lib.hid (by rw [chk_long h8]; rfl)
    have d2 : (8 : Int) < (l.length : Int) := by omega
    go_enter Try.func45, Try.ntmps45
    go_wp2_with fail
    go_ret
    exact ⟨Lb.ret_i hR.out, Upon.refl _ _⟩
  have d2 : ¬ (8 : Int) < (l.length : Int) := by omega
  have hf : Hid (first l = chk l) := Lib.hid (chk_few h8).symm
  obtain ⟨q, hq⟩ : ∃ q, chk l = q := ⟨_, rfl⟩
  rw [hq] at hf ⊢
  clear hq
  go_enter Try.func45, Try.ntmps45
  go_wp2_with fail
  go_loopw [3] (fun ov wr => ∃ j : Nat, ov = .int .i64 (j : Int) ∧ j ≤ l.length ∧ Hid (first (l.drop j) = q) ∧ Hid (New0 w wr)) (fun ov _ => l.length - (intOf ov).toNat)
  case atStart => exact ⟨0, rfl, Nat.zero_le _, hf, Lib.hid (Upon.refl _ _)⟩
  case round =>
    clear hf
    obtain ⟨j, rfl, hj, hg, hu⟩ := hrel
    by_cases hlt : j < l.length
    · obtain ⟨b, off, rfl, -, -, hcells⟩ := View.cells hv.out (by omega)
      obtain ⟨x0, x1, x2⟩ := hcells j hlt
      have r0 := Lb.New0.cells hu.out x0
      have r1 := Lb.New0.cells hu.out x1
      have r2 := Lb.New0.cells hu.out x2
      have HR := Lib.hid (fun w => refright_any w l[j] (hb.out _ (List.getElem_mem hlt)))
      have hbad := Lib.hid (fun h => (first_bad hlt h).symm.trans hg.out)
      have hgood := Lib.hid (fun h => (first_good hlt h).symm.trans hg.out)
      obtain ⟨m, hm⟩ : ∃ m, l[j] = m := ⟨_, rfl⟩
      rw [hm] at r0 r1 r2 HR hbad hgood
      clear hcells x0 x1 x2 hm hg
      obtain ⟨a, b', c'⟩ := m
      unfold mv at HR
      by_cases he : right (a, b', c') = 0
      · have hG := Lib.hid (hgood.out he)
        rw [he] at HR
        clear hbad hgood he
        go_wp2_with fail
        refine (HR.out _).mono ?_
        rintro e w2 ⟨rfl, hu2⟩
        have hu3 := Lib.hid (hu.out.trans hu2)
        clear HR hu hu2 r0 r1 r2
        go_wp2_with fail
        go_roundw
        case rel => exact ⟨j + 1, by go_num, hlt, hG, hu3⟩
        case measure => simp [intOf]; omega
      · have hG := Lib.hid (hbad.out he)
        obtain ⟨z, hz⟩ : ∃ z, right (a, b', c') = z := ⟨_, rfl⟩
        rw [hz] at HR hG he
        have d : ((z : Int) != 0) = true := by rw [bne_iff_ne]; omega
        have hE : Hid ((z : Int) = (q : Int)) := Lib.hid (by rw [hG.out])
        clear hbad hgood he hz hG
        go_wp2_with fail
        refine (HR.out _).mono ?_
        rintro e w2 ⟨rfl, hu2⟩
        have hu3 := Lib.hid (hu.out.trans hu2)
        clear HR hu hu2 r0 r1 r2
        go_wp2_with fail
        go_ret
        exact ⟨Lb.ret_i hE.out, hu3.out⟩
    · have hE : Hid ((0 : Int) = (q : Int)) := Lib.hid (by have := hg.out; rw [first_end hlt] at this; rw [← this]; rfl)
      clear hg hv hb
      go_wp2_with fail
      go_ret
      exact ⟨Lb.ret_i hE.out, hu.out⟩
end Mt
end Go.Proofs.Ytklgdllllboipaa
end

/- The document's own matchers (layer 11): holds, Is, Same. -/
section
set_option maxRecDepth 100000
namespace Go.Proofs.Ytklgdllllboipaa
open Go.RowKit Go.Sort
namespace Mt
open Bit Dsk Ob Dig
set_option linter.unusedVariables false

theorem emp_is (g : ByteArray) : g.toList.isEmpty = decide (g.size = 0) := by
  by_cases h : g.size = 0
  · rw [decide_eq_true h, List.isEmpty_iff]; exact beq_iff_eq.1 (emp_yes h)
  · rw [decide_eq_false h, ← Bool.not_eq_true, List.isEmpty_iff]; exact beq_eq_false_iff_ne.1 (emp_no h)
theorem holds_1 {n v g : ByteArray} : holds ((1 : Int), n, v) g = decide (g = v) := by simp [holds]
theorem holds_2 {n v g : ByteArray} : holds ((2 : Int), n, v) g = !decide (g = v) := by simp [holds]
theorem holds_3 {n v g : ByteArray} : holds ((3 : Int), n, v) g = pre v g := by simp [holds]
theorem holds_4 {k : Int} {n v g : ByteArray} (h1 : k ≠ 1) (h2 : k ≠ 2) (h3 : k ≠ 3) : holds (k, n, v) g = !decide (g.size = 0) := by simp [holds, h1, h2, h3]
set_option maxHeartbeats 3200000 in
theorem refholds_any (w : World) (m : M) (hb : Bnd1 m) (S : Nat → Prop) (lv : Value) (a : List Lb.Pr) (hv : Lb.View w S lv a) :
    Calls Try.prog 46 #[mv m, lv] w fun e w' => e = .returned (.bool (holds m (Lb.get a m.2.1))) ∧ New0 w w' := by
  obtain ⟨k, n, v⟩ := m
  obtain ⟨-, -, hn, hvz⟩ := hb
  simp only at hn hvz
  unfold mv
  have hU := Lib.hid ((Upon.refl (fun _ => False) w).alloc (.cells #[.int .i64 k, .string n, .string v] 41 (0, 0)))
  have HG := Lib.hid (Lb.refget_any' _ S lv a (Rw.View.new hv hU.out) n)
  obtain ⟨A, c, rfl, -, -⟩ := Rw.View.shape hv
  simp only
  obtain ⟨g, hg⟩ : ∃ g, Lb.get a n = g := ⟨_, rfl⟩
  rw [hg] at HG ⊢
  clear hv hg
  by_cases h1 : k = 1
  · subst h1
    have hR : Hid ((g.toList == v.toList) = holds ((1 : Int), n, v) g) := Lib.hid (by rw [holds_1, Lb.toList_beq])
    go_enter Try.func46, Try.ntmps46
    go_wp2_with fail
    refine HG.out.mono ?_
    rintro e w2 ⟨rfl, n2, rfl⟩
    clear HG
    go_wp2_with fail
    go_ret
    exact ⟨Lb.ret_b hR.out, hU.out.trans (upon_drewN _ _ n2)⟩
  have e1 : (k == 1) = false := by rw [beq_eq_false_iff_ne]; exact h1
  by_cases h2 : k = 2
  · subst h2
    have hR : Hid ((!(g.toList == v.toList)) = holds ((2 : Int), n, v) g) := Lib.hid (by rw [holds_2, Lb.toList_beq])
    clear e1 h1
    go_enter Try.func46, Try.ntmps46
    go_wp2_with fail
    refine HG.out.mono ?_
    rintro e w2 ⟨rfl, n2, rfl⟩
    clear HG
    go_wp2_with fail
    go_ret
    exact ⟨Lb.ret_b hR.out, hU.out.trans (upon_drewN _ _ n2)⟩
  have e2 : (k == 2) = false := by rw [beq_eq_false_iff_ne]; exact h2
  by_cases h3 : k = 3
  · subst h3
    by_cases hs : v.size ≤ g.size
    · have hR : Hid (((g.extract 0 v.size).toList == v.toList) = holds ((3 : Int), n, v) g) := Lib.hid (by rw [holds_3, Lb.toList_beq, pre, decide_eq_true hs, Bool.true_and])
      have d1 : decide ((v.size : Int) ≤ (g.size : Int)) = true := decide_eq_true (by omega)
      have d1' : decide (v.size ≤ g.size) = true := decide_eq_true hs
      clear e1 h1 e2 h2
      go_enter Try.func46, Try.ntmps46
      go_wp2_with fail
      refine HG.out.mono ?_
      rintro e w2 ⟨rfl, n2, rfl⟩
      clear HG
      go_wp2_with fail
      go_quiet (fail)
      go_wp2_with fail
      go_ret
      exact ⟨Lb.ret_b hR.out, hU.out.trans (by first | exact upon_drewN _ _ _ | (rw [World.drewN_drewN]; exact upon_drewN _ _ _))⟩
    · have hR : Hid (false = holds ((3 : Int), n, v) g) := Lib.hid (by rw [holds_3, pre, decide_eq_false hs, Bool.false_and])
      have d1 : decide ((v.size : Int) ≤ (g.size : Int)) = false := decide_eq_false (by omega)
      have d1' : decide (v.size ≤ g.size) = false := decide_eq_false hs
      clear e1 h1 e2 h2 hs
      go_enter Try.func46, Try.ntmps46
      go_wp2_with fail
      refine HG.out.mono ?_
      rintro e w2 ⟨rfl, n2, rfl⟩
      clear HG
      go_wp2_with fail
      go_quiet (fail)
      go_wp2_with fail
      go_ret
      exact ⟨Lb.ret_b hR.out, hU.out.trans (by first | exact upon_drewN _ _ _ | (rw [World.drewN_drewN]; exact upon_drewN _ _ _))⟩
  have e3 : (k == 3) = false := by rw [beq_eq_false_iff_ne]; exact h3
  have hR : Hid ((!g.toList.isEmpty) = holds (k, n, v) g) := Lib.hid (by rw [holds_4 h1 h2 h3, emp_is])
  clear h1 h2 h3
  go_enter Try.func46, Try.ntmps46
  go_wp2_with fail
  refine HG.out.mono ?_
  rintro e w2 ⟨rfl, n2, rfl⟩
  clear HG
  go_wp2_with fail
  go_ret
  exact ⟨Lb.ret_b hR.out, hU.out.trans (upon_drewN _ _ n2)⟩
set_option maxHeartbeats 3200000 in
theorem refis_any (w : World) (S S' : Nat → Prop) (v lv : Value) (l : List M) (a : List Lb.Pr) (hv : View w S v l) (hb : Bnd l) (ha : Lb.View w S' lv a) :
    Calls Try.prog 32 #[v, lv] w fun e w' => e = .returned (.bool (is l a)) ∧ New0 w w' := by
  have HC := Lib.hid (refcheck_any w S v l hv hb)
  have HH := Lib.hid (fun (m : M) (hm : Bnd1 m) w' (hu : New0 w w') => refholds_any w' m hm S' lv a (Rw.View.new ha hu))
  obtain ⟨A, c, rfl, -, -⟩ := Rw.View.shape hv
  obtain ⟨A', c', rfl, -, -⟩ := Rw.View.shape ha
  replace hv := Lib.hid hv
  replace hb := Lib.hid hb
  clear ha
  by_cases h0 : chk l = 0
  · have hall : Hid (all l a = is l a) := Lib.hid (is_all h0).symm
    rw [h0] at HC
    obtain ⟨q, hq⟩ : ∃ q, is l a = q := ⟨_, rfl⟩
    rw [hq] at hall ⊢
    have hfew : l.length ≤ 8 := (chk_zero.1 h0).1
    clear hq h0
    go_enter Try.func32, Try.ntmps32
    go_wp2_with fail
    refine HC.out.mono ?_
    rintro e w2 ⟨rfl, hu2⟩
    replace hu2 := Lib.hid hu2
    clear HC
    go_wp2_with fail
    go_loopw [5, 6] (fun bv ov wr => ∃ (j : Nat) (x : Bool), bv = .bool x ∧ ov = .int .i64 (j : Int) ∧ j ≤ l.length ∧ Hid ((x = true ∧ all (l.drop j) a = q) ∨ (x = false ∧ q = false)) ∧ Hid (New0 w wr)) (fun _ ov _ => l.length - (intOf ov).toNat)
    case atStart => exact ⟨0, true, rfl, rfl, Nat.zero_le _, Lib.hid (.inl ⟨rfl, hall.out⟩), hu2⟩
    case round =>
      clear hall hu2
      obtain ⟨j, x, rfl, rfl, hj, hg, hu⟩ := hrel
      cases x with
      | false =>
        have hq : Hid (false = q) := Lib.hid (by rcases hg.out with ⟨h, -⟩ | ⟨-, h⟩
                                                 · cases h
                                                 · exact h.symm)
        clear hg hv hb HH
        by_cases hlt : j < l.length
        · go_wp2_with fail
          go_ret
          exact ⟨Lb.ret_b hq.out, hu.out⟩
        · go_wp2_with fail
          go_ret
          exact ⟨Lb.ret_b hq.out, hu.out⟩
      | true =>
        replace hg : Hid (all (l.drop j) a = q) := Lib.hid (by rcases hg.out with ⟨-, h⟩ | ⟨h, -⟩
                                                               · exact h
                                                               · cases h)
        by_cases hlt : j < l.length
        · obtain ⟨b, off, rfl, -, -, hcells⟩ := View.cells hv.out (by omega)
          obtain ⟨x0, x1, x2⟩ := hcells j hlt
          have r0 := Lb.New0.cells hu.out x0
          have r1 := Lb.New0.cells hu.out x1
          have r2 := Lb.New0.cells hu.out x2
          have HR := Lib.hid (HH.out l[j] (hb.out _ (List.getElem_mem hlt)) _ hu.out)
          have hno := Lib.hid (fun h => (all_not (a := a) hlt h).symm.trans hg.out)
          have hyes := Lib.hid (fun h => (all_yes (a := a) hlt h).symm.trans hg.out)
          obtain ⟨m, hm⟩ : ∃ m, l[j] = m := ⟨_, rfl⟩
          rw [hm] at r0 r1 r2 HR hno hyes
          clear hcells x0 x1 x2 hm hg HH
          obtain ⟨k, n, v⟩ := m
          unfold mv at HR
          simp only at HR hno hyes r0 r1 r2
          obtain ⟨y, hy⟩ : ∃ y, holds (k, n, v) (Lb.get a n) = y := ⟨_, rfl⟩
          rw [hy] at HR hno hyes
          have hnx : Hid ((y = true ∧ all (l.drop (j + 1)) a = q) ∨ (y = false ∧ q = false)) := Lib.hid (by
            cases y with
            | true => exact .inl ⟨rfl, hyes.out rfl⟩
            | false => exact .inr ⟨rfl, (hno.out rfl).symm⟩)
          clear hno hyes hy
          go_wp2_with fail
          refine HR.out.mono ?_
          rintro e w3 ⟨rfl, hu3⟩
          have hu4 := Lib.hid (hu.out.trans hu3)
          clear HR hu hu3 r0 r1 r2
          go_wp2_with fail
          go_roundw
          case rel => exact ⟨j + 1, y, rfl, by go_num, hlt, hnx, hu4⟩
          case measure => simp [intOf]; omega
        · have hq : Hid (true = q) := Lib.hid (by rw [← hg.out, all_end hlt])
          clear hg hv hb HH
          go_wp2_with fail
          go_ret
          exact ⟨Lb.ret_b hq.out, hu.out⟩
  · have hR : Hid (false = is l a) := Lib.hid (is_no h0).symm
    obtain ⟨z, hz⟩ : ∃ z, chk l = z := ⟨_, rfl⟩
    rw [hz] at HC h0
    have d : ((z : Int) == 0) = false := by rw [beq_eq_false_iff_ne]; omega
    clear hz h0 HH hb
    go_enter Try.func32, Try.ntmps32
    go_wp2_with fail
    refine HC.out.mono ?_
    rintro e w2 ⟨rfl, hu2⟩
    replace hu2 := Lib.hid hu2
    clear HC
    go_wp2_with fail
    go_loopw [5, 6] (fun bv ov wr => bv = .bool false ∧ ov = .int .i64 0 ∧ wr = w2) (fun _ _ _ => 0)
    case atStart => exact ⟨rfl, rfl, rfl⟩
    case round =>
      obtain ⟨rfl, rfl, rfl⟩ := hrel
      by_cases hlt : (0 : Int) < (l.length : Int)
      · go_wp2_with fail
        go_ret
        exact ⟨Lb.ret_b hR.out, hu2.out⟩
      · go_wp2_with fail
        go_ret
        exact ⟨Lb.ret_b hR.out, hu2.out⟩
theorem m_step {l m : List M} {j : Nat} (ha : j < l.length) (hb : j < m.length) (he : l[j] = m[j]) : l.drop j = m.drop j ↔ l.drop (j + 1) = m.drop (j + 1) := by
  rw [List.drop_eq_getElem_cons ha, List.drop_eq_getElem_cons hb, he]; exact ⟨fun h => (List.cons.inj h).2, fun h => by rw [h]⟩
theorem m_diff {l m : List M} {j : Nat} (ha : j < l.length) (hb : j < m.length) (he : l[j] ≠ m[j]) : l.drop j ≠ m.drop j := by
  rw [List.drop_eq_getElem_cons ha, List.drop_eq_getElem_cons hb]; exact fun h => he (List.cons.inj h).1
end Mt
end Go.Proofs.Ytklgdllllboipaa
end

/- The document's own matchers (layer 11): Encode, Take, Get. -/
section
set_option maxRecDepth 100000
namespace Go.Proofs.Ytklgdllllboipaa
open Go.RowKit Go.Sort
namespace Mt
open Bit Dsk Ob Dig
set_option linter.unusedVariables false

/-- What Encode answers. -/
def encR (l : List M) : Ending := if chk l = 0 then .returned (.tuple #[.string ⟨(encB l).toArray⟩, .int .i64 0]) else .returned (.tuple #[.string ByteArray.empty, .int .i64 (chk l : Int)])
theorem encR_ok {l : List M} (h : chk l = 0) : encR l = .returned (.tuple #[.string ⟨(encB l).toArray⟩, .int .i64 0]) := if_pos h
theorem encR_no {l : List M} (h : chk l ≠ 0) : encR l = .returned (.tuple #[.string ByteArray.empty, .int .i64 (chk l : Int)]) := if_neg h
/-- The bytes so far. -/
def So (l : List M) (j : Nat) (s : ByteArray) : Prop := s.data.toList = numL l.length ++ (l.take j).flatMap mB
def numA (n : Nat) : ByteArray := ⟨(numL n).toArray⟩
theorem numA_few (n : Nat) : (numA n).size ≤ 9 := by
  show (numL n).toArray.size ≤ 9
  rw [List.size_toArray, numL_length]; have := nd_le n; omega
theorem So.start (l : List M) : So l 0 ⟨(numL l.length).toArray⟩ := by simp [So]
theorem So.step {l : List M} {j : Nat} {s : ByteArray} (h : So l j s) (hj : j < l.length) : So l (j + 1) (s ++ numA l[j].1.toNat ++ textA l[j].2.1 ++ textA l[j].2.2) := by
  unfold So at *
  rw [ByteArray.data_append, Array.toList_append, ByteArray.data_append, Array.toList_append, ByteArray.data_append, Array.toList_append, h, textA_list, textA_list, List.take_succ_eq_append_getElem hj, List.flatMap_append]
  simp [mB, Lb.pB, numA, List.append_assoc]
theorem So.last {l : List M} {j : Nat} {s : ByteArray} (h : So l j s) (hj : ¬ j < l.length) : s = ⟨(encB l).toArray⟩ := by
  refine Lb.data_inj ?_
  rw [h, List.take_of_length_le (by omega)]; rfl
theorem So.size {l : List M} {j : Nat} {s : ByteArray} (h : So l j s) (hok : chk l = 0) : s.size ≤ 1000 := by
  obtain ⟨h8, hr⟩ := chk_zero.1 hok
  have h1 := nd_le l.length
  have h2 : ((l.take j).flatMap mB).length ≤ 123 * (l.take j).length := flat_len fun p hp => hr p (List.mem_of_mem_take hp)
  have h3 : (l.take j).length ≤ 8 := by rw [List.length_take]; omega
  have h4 : s.data.toList.length = s.size := by simp
  have h5 := congrArg List.length h
  rw [List.length_append, numL_length] at h5
  omega
theorem refcheck_is (w : World) (S : Nat → Prop) (v : Value) (l : List M) (hv : View w S v l) (hb : Bnd l) {z : Nat} (h : chk l = z) :
    Calls Try.prog 45 #[v] w fun e w' => e = .returned (.int .i64 (z : Int)) ∧ New0 w w' := by
  subst h; exact refcheck_any w S v l hv hb
end Mt
end Go.Proofs.Ytklgdllllboipaa
end

/- The document's own matchers (layer 11): In's methods beside other objects; Take. -/
section
set_option maxRecDepth 100000
namespace Go.Proofs.Ytklgdllllboipaa
open Go.RowKit Go.Sort
namespace Mt
open Bit Dsk Ob Dig Lb
set_option linter.unusedVariables false

/-! ### In, beside whatever else -/

/-! ### Take -/
/-- How far Take is. -/
def St (s : List UInt8) (n e j : Nat) (l : List M) (r : List UInt8) : Prop := (e ≠ 0 ∧ (tk s).2.2 = e) ∨ (e = 0 ∧ ∃ k, gotN s = (n, k, 0) ∧ ¬ 8 < n ∧ Read n (s.drop k) j l r)
theorem St.start {s : List UInt8} {n k x : Nat} {b : Bool} (h : gotN s = (n, k, x)) (hb : b = true ↔ n ≤ 8) : St s n (mustE b x 8) 0 [] (s.drop k) := by
  by_cases hx : x = 0
  · subst hx
    cases b with
    | true => exact .inr ⟨by simp [mustE], k, h, by have := hb.1 rfl; omega, Read.start _ _⟩
    | false =>
      have hn : 8 < n := by
        by_cases c : n ≤ 8
        · exact absurd (hb.2 c) (by decide)
        · omega
      exact .inl ⟨by simp [mustE], by rw [tk_long h hn]; simp [mustE]⟩
  · have e : mustE b x 8 = x := by simp [mustE, hx]
    rw [e]
    exact .inl ⟨hx, by rw [tk_num h hx]⟩
theorem St.few {s : List UInt8} {n j : Nat} {l : List M} {r : List UInt8} (h : St s n 0 j l r) : l.length = j ∧ j ≤ n ∧ n ≤ 8 := by
  rcases h with ⟨h, -⟩ | ⟨-, k, -, h2, h3, h4, -⟩
  · exact absurd rfl h
  · exact ⟨h4, h3, by omega⟩
theorem St.step {s : List UInt8} {n j : Nat} {l : List M} {r r1 : List UInt8} {m : M} (h : St s n 0 j l r) (hj : j < n) (h1 : one r = (m, r1, 0)) : St s n 0 (j + 1) (l ++ [m]) r1 := by
  rcases h with ⟨h, -⟩ | ⟨-, k, k1, k2, k3⟩
  · exact absurd rfl h
  · exact .inr ⟨rfl, k, k1, k2, k3.step hj h1⟩
theorem St.bad {s : List UInt8} {n j j' : Nat} {l l' : List M} {r r' : List UInt8} {e : Nat} (h : St s n 0 j l r) (hj : j < n) (h1 : (one r).2.2 = e) (he : e ≠ 0) : St s n e j' l' r' := by
  rcases h with ⟨h, -⟩ | ⟨-, k, k1, k2, k3⟩
  · exact absurd rfl h
  · exact .inl ⟨he, by rw [tk_bad k1 k2 (k3.bad hj h1 he) he]⟩
/-- What Take leaves: the error; if there is none, the matchers, and what is left. -/
def TkE (s : List UInt8) (x : Nat) (l : List M) (r : List UInt8) : Prop := (tk s).2.2 = x ∧ (x = 0 → tk s = (l, r, 0))
theorem St.err {s : List UInt8} {n e j : Nat} {l : List M} {r : List UInt8} (h : St s n e j l r) (he : e ≠ 0) : TkE s e l r := by
  rcases h with ⟨-, h⟩ | ⟨h, -⟩
  · exact ⟨h, fun c => absurd c he⟩
  · exact absurd h he
theorem St.fin {s : List UInt8} {n j : Nat} {l : List M} {r : List UInt8} (h : St s n 0 j l r) (hj : ¬ j < n) : TkE s (chk l) l r := by
  rcases h with ⟨h, -⟩ | ⟨-, k, k1, k2, k3⟩
  · exact absurd rfl h
  · have hp := k3.last hj
    by_cases hc : chk l = 0
    · have := tk_ok k1 k2 hp hc
      rw [hc]
      exact ⟨by rw [this], fun _ => this⟩
    · exact ⟨by rw [tk_chk k1 k2 hp hc], fun c => absurd c hc⟩
theorem Bnd.snoc {l : List M} {m : M} (h : Bnd l) (hm : Bnd1 m) : Bnd (l ++ [m]) := fun x hx => by
  rcases List.mem_append.1 hx with hx | hx
  · exact h x hx
  · rw [List.mem_singleton.1 hx]; exact hm
theorem bnd_wrap (k : Int) {a b : ByteArray} (ha : a.size ≤ 9223372036854775807) (hb : b.size ≤ 9223372036854775807) : Bnd1 (IntKind.i64.wrap k, a, b) := by
  refine ⟨?_, ?_, ha, hb⟩ <;> simp only [IntKind.wrap_i64] <;> omega
theorem view_two (w : World) (k : Int) (a b : ByteArray) : View (w.alloc (.cells #[.int .i64 k, .string a, .string b] 41 (0, 0))) All (.slice (some ⟨w.heap.size, 0, none⟩) 1 1) [(k, a, b)] := view_one (cell_new w _)
end Mt
end Go.Proofs.Ytklgdllllboipaa
end

/- The document's own matchers (layer 11): Take, Get. -/
section
set_option maxRecDepth 100000
namespace Go.Proofs.Ytklgdllllboipaa
open Go.RowKit Go.Sort
namespace Mt
open Bit Dsk Ob Dig Lb
set_option linter.unusedVariables false

/-! ### Get -/
/-- What Get answers: the matchers, how many bytes were theirs, the error. -/
def got (s : List UInt8) : List M × Nat × Nat := if (tk s).2.2 = 0 then ((tk s).1, s.length - (tk s).2.1.length, 0) else ([], 0, (tk s).2.2)
theorem got_no {s : List UInt8} {x : Nat} (h : (tk s).2.2 = x) (hx : x ≠ 0) : got s = ([], 0, x) := by unfold got; rw [h, if_neg hx]
theorem got_ok {s : List UInt8} {l : List M} {r : List UInt8} (h : tk s = (l, r, 0)) : got s = (l, s.length - r.length, 0) := by unfold got; rw [h]; simp
/-- What Get's end is. -/
def GetE (w : World) (sl : List UInt8) (e : Ending) (w' : World) : Prop := ∃ v, e = .returned (.tuple #[v, .int .i64 ((got sl).2.1 : Int), .int .i64 ((got sl).2.2 : Int)]) ∧ View w' All v (got sl).1 ∧ New0 w w'
theorem GetE.no {w w' : World} {sl : List UInt8} {x : Nat} {z : Int} (h : got sl = ([], 0, x)) (hz : z = x) (hu : New0 w w') : GetE w sl (.returned (.tuple #[.slice none 0 0, .int .i64 0, .int .i64 z])) w' := by
  subst hz
  unfold GetE
  rw [h]
  exact ⟨_, rfl, Rw.View.noth _ _ _, hu⟩
theorem GetE.yes {w w' : World} {sl : List UInt8} {l : List M} {v : Value} {k : Nat} {z : Int} (h : got sl = (l, k, 0)) (hz : z = k) (hv : View w' All v l) (hu : New0 w w') : GetE w sl (.returned (.tuple #[v, .int .i64 z, .int .i64 0])) w' := by
  subst hz
  unfold GetE
  rw [h]
  exact ⟨v, rfl, hv, hu⟩
/-- Nothing. -/
def NoO : Ob.Rel := fun _ S => ∀ x, ¬ S x
theorem thingNo : Thing NoO := ⟨fun _ _ _ h _ _ => h, fun _ _ h x hx => absurd hx (h x)⟩
theorem ownNo {I : Ob.Rel} (hI : Thing I) {w0 w : World} (H : Own I w0 w) : Own (Tens I NoO) w0 w :=
  Own.new hI H (T := fun _ => False) (fun x hx => hx) (fun x hx => hx.elim) (Upon.refl _ w)
theorem tk_len {s r : List UInt8} {l : List M} (h : tk s = (l, r, 0)) : r.length ≤ s.length := by
  have := congrArg List.length (tk_back h).2
  rw [List.length_append] at this
  omega
end Mt
end Go.Proofs.Ytklgdllllboipaa
end
