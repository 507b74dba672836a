/- Parts, put together: MtPure, MtRow, MtRef, MtRef2, MtRef3, MtTake, MtTake2. -/
import Derived.Test.YtjpgglajcelllaaDoorEPLb1
import Derived.Test.YtjpgglajcelllaaDoorEPRow

/- Matchers, plainly (layer 11): which are right, what they ask, their bytes, what is read. Names no function of the program. -/
section
set_option maxRecDepth 100000
namespace Go.Proofs.YtjpgglajcelllaaDoor
open Go.RowKit Go.Sort
namespace Mt
open Bit Dsk Ob Dig
set_option linter.unusedVariables false
/-- A matcher: its kind, name, value. -/
abbrev M := Int × ByteArray × ByteArray
/-- What is wrong with one (0: nothing). -/
def right (m : M) : Nat := if m.1 < 1 ∨ 4 < m.1 then 5 else if Lb.nm m.2.1 = false ∨ (m.2.2.size ≠ 0 ∧ (Lb.vl m.2.2 = false ∨ m.1 = 4)) then 3 else 0
def first : List M → Nat
  | [] => 0
  | m :: l => if right m ≠ 0 then right m else first l
def chk (l : List M) : Nat := if 8 < l.length then 8 else first l
theorem first_zero : ∀ {l : List M}, first l = 0 ↔ ∀ m ∈ l, right m = 0
  | [] => by simp [first]
  | m :: l => by
    rw [first]
    by_cases h : right m = 0
    · rw [if_neg (by simp [h]), first_zero]; simp [h]
    · rw [if_pos h]; simp [h]
theorem chk_zero {l : List M} : chk l = 0 ↔ l.length ≤ 8 ∧ ∀ m ∈ l, right m = 0 := by
  unfold chk
  by_cases h : 8 < l.length
  · rw [if_pos h]; simp; omega
  · rw [if_neg h, first_zero]; simp; omega
theorem right_zero {m : M} : right m = 0 ↔ 1 ≤ m.1 ∧ m.1 ≤ 4 ∧ Lb.nm m.2.1 = true ∧ (m.2.2.size ≠ 0 → Lb.vl m.2.2 = true ∧ m.1 ≠ 4) := by
  unfold right
  by_cases h1 : m.1 < 1 ∨ 4 < m.1
  · rw [if_pos h1]; simp; omega
  · rw [if_neg h1]
    by_cases h2 : Lb.nm m.2.1 = false ∨ (m.2.2.size ≠ 0 ∧ (Lb.vl m.2.2 = false ∨ m.1 = 4))
    · rw [if_pos h2]
      constructor
      · intro h; simp at h
      · rintro ⟨-, -, k1, k2⟩
        rcases h2 with h2 | ⟨h2, h3⟩
        · rw [k1] at h2; cases h2
        · have := k2 h2
          rcases h3 with h3 | h3
          · rw [this.1] at h3; cases h3
          · exact absurd h3 this.2
    · rw [if_neg h2]
      simp only [true_iff]
      refine ⟨by omega, by omega, ?_, fun h => ?_⟩
      · cases h : Lb.nm m.2.1 with
        | true => rfl
        | false => exact absurd (.inl h) h2
      · refine ⟨?_, fun e => h2 (.inr ⟨h, .inr e⟩)⟩
        cases h' : Lb.vl m.2.2 with
        | true => rfl
        | false => exact absurd (.inr ⟨h, .inl h'⟩) h2
theorem right_small {m : M} (h : right m = 0) : m.2.1.size ≤ 32 ∧ m.2.2.size ≤ 64 := by
  obtain ⟨-, -, h1, h2⟩ := right_zero.1 h
  refine ⟨(Lb.nm_size h1).2, ?_⟩
  by_cases h0 : m.2.2.size = 0
  · omega
  · exact (Lb.vl_size (h2 h0).1).2
/-! ### what is asked -/
/-- v begins with p. -/
def pre (p v : ByteArray) : Bool := decide (p.size ≤ v.size) && decide (v.extract 0 p.size = p)
def holds (m : M) (v : ByteArray) : Bool := if m.1 = 1 then decide (v = m.2.2) else if m.1 = 2 then !decide (v = m.2.2) else if m.1 = 3 then pre m.2.2 v else !decide (v.size = 0)
def all (l : List M) (a : List Lb.Pr) : Bool := l.all fun m => holds m (Lb.get a m.2.1)
/-! ### their bytes -/
def mB (m : M) : List UInt8 := numL m.1.toNat ++ Lb.pB m.2
def encB (l : List M) : List UInt8 := numL l.length ++ l.flatMap mB
theorem mB_len {m : M} (h1 : m.2.1.size ≤ 32) (h2 : m.2.2.size ≤ 64) : (mB m).length ≤ 123 := by
  have a := nd_le m.1.toNat
  have b := Lb.pB_len h1 h2
  rw [mB, List.length_append, numL_length]; omega
theorem flat_len : ∀ {l : List M}, (∀ m ∈ l, right m = 0) → (l.flatMap mB).length ≤ 123 * l.length
  | [], _ => by simp
  | m :: l, h => by
    have h0 := right_small (h m (by simp))
    have h1 := mB_len h0.1 h0.2
    have h2 := flat_len (l := l) fun q hq => h q (by simp [hq])
    rw [List.flatMap_cons, List.length_append, List.length_cons]; omega
/-! ### reading -/
/-- The next matcher: what it is, what is left, the error. -/
def one (s : List UInt8) : M × List UInt8 × Nat :=
  if (gotN s).2.2 ≠ 0 then ((0, ByteArray.empty, ByteArray.empty), s, (gotN s).2.2) else if 4 < (gotN s).1 then ((0, ByteArray.empty, ByteArray.empty), s, 5) else
  if (Lb.txt 32 (s.drop (gotN s).2.1)).2.2 ≠ 0 then ((0, ByteArray.empty, ByteArray.empty), s, (Lb.txt 32 (s.drop (gotN s).2.1)).2.2) else
  if (Lb.txt 64 (Lb.txt 32 (s.drop (gotN s).2.1)).2.1).2.2 ≠ 0 then ((0, ByteArray.empty, ByteArray.empty), s, (Lb.txt 64 (Lb.txt 32 (s.drop (gotN s).2.1)).2.1).2.2) else
  ((((gotN s).1 : Int), (Lb.txt 32 (s.drop (gotN s).2.1)).1, (Lb.txt 64 (Lb.txt 32 (s.drop (gotN s).2.1)).2.1).1), (Lb.txt 64 (Lb.txt 32 (s.drop (gotN s).2.1)).2.1).2.1, 0)
theorem one_ok {s r1 r2 : List UInt8} {n k : Nat} {a b : ByteArray} (h : gotN s = (n, k, 0)) (hn : ¬ 4 < n) (h1 : Lb.txt 32 (s.drop k) = (a, r1, 0)) (h2 : Lb.txt 64 r1 = (b, r2, 0)) : one s = (((n : Int), a, b), r2, 0) := by
  unfold one; rw [h]; simp only [ne_eq, not_true_eq_false, if_false]; rw [if_neg hn, h1]; simp only [not_true_eq_false, if_false]; rw [h2]; simp
def many : Nat → List UInt8 → List M × List UInt8 × Nat
  | 0, s => ([], s, 0)
  | n + 1, s => if (one s).2.2 ≠ 0 then ([], s, (one s).2.2) else ((one s).1 :: (many n (one s).2.1).1, (many n (one s).2.1).2)
/-- So many are read of s: the first ones are l, r is left. -/
def Read (n : Nat) (s : List UInt8) (j : Nat) (l : List M) (r : List UInt8) : Prop := j ≤ n ∧ l.length = j ∧ many n s = (l ++ (many (n - j) r).1, (many (n - j) r).2)
theorem Read.step {n : Nat} {s : List UInt8} {j : Nat} {l : List M} {r r1 : List UInt8} {m : M} (h : Read n s j l r) (hj : j < n) (h1 : one r = (m, r1, 0)) : Read n s (j + 1) (l ++ [m]) r1 := by
  obtain ⟨k1, k2, k3⟩ := h
  refine ⟨hj, by simp [k2], ?_⟩
  rw [k3, show n - j = n - (j + 1) + 1 by omega, many, h1]
  simp
theorem Read.last {n : Nat} {s : List UInt8} {j : Nat} {l : List M} {r : List UInt8} (h : Read n s j l r) (hj : ¬ j < n) : many n s = (l, r, 0) := by
  obtain ⟨k1, k2, k3⟩ := h
  rw [k3, show n - j = 0 by omega]
  simp [many]
/-- The matchers at the front: what they are, what is left, the error. -/
def tk (s : List UInt8) : List M × List UInt8 × Nat :=
  if (gotN s).2.2 ≠ 0 then ([], s, (gotN s).2.2) else if 8 < (gotN s).1 then ([], s, 8) else
  if (many (gotN s).1 (s.drop (gotN s).2.1)).2.2 ≠ 0 then ([], s, (many (gotN s).1 (s.drop (gotN s).2.1)).2.2) else
  if chk (many (gotN s).1 (s.drop (gotN s).2.1)).1 ≠ 0 then ([], s, chk (many (gotN s).1 (s.drop (gotN s).2.1)).1) else
  ((many (gotN s).1 (s.drop (gotN s).2.1)).1, (many (gotN s).1 (s.drop (gotN s).2.1)).2.1, 0)
theorem tk_ok {s : List UInt8} {n k : Nat} {l : List M} {r : List UInt8} (h : gotN s = (n, k, 0)) (hn : ¬ 8 < n) (hp : many n (s.drop k) = (l, r, 0)) (hl : chk l = 0) : tk s = (l, r, 0) := by
  unfold tk; rw [h]; simp only [ne_eq, not_true_eq_false, if_false]; rw [if_neg hn, hp]; simp [hl]
/-! ### back -/
theorem one_mB {m : M} (h : right m = 0) (r : List UInt8) : one (mB m ++ r) = (m, r, 0) := by
  obtain ⟨h1, h2, h3, h4⟩ := right_zero.1 h
  have hs := right_small h
  have hg : gotN (mB m ++ r) = (m.1.toNat, nd m.1.toNat + 1, 0) := by rw [mB, List.append_assoc]; exact got_num _ (by omega) _
  have hd : (mB m ++ r).drop (nd m.1.toNat + 1) = numL m.2.1.size ++ m.2.1.data.toList ++ (numL m.2.2.size ++ m.2.2.data.toList ++ r) := by
    rw [mB, List.append_assoc, ← numL_length, List.drop_left, Lb.pB]; simp [List.append_assoc]
  have e := one_ok hg (by omega) (by rw [hd]; exact Lb.txt_text m.2.1 32 _ (by omega) (by omega)) (Lb.txt_text m.2.2 64 r (by omega) (by omega))
  rw [e]
  have e1 : ((m.1.toNat : Nat) : Int) = m.1 := by omega
  rw [e1]
theorem many_flat : ∀ (l : List M) (r : List UInt8), (∀ m ∈ l, right m = 0) → many l.length (l.flatMap mB ++ r) = (l, r, 0)
  | [], r, _ => by simp [many]
  | m :: l, r, h => by
    have e : (m :: l).flatMap mB ++ r = mB m ++ (l.flatMap mB ++ r) := by rw [List.flatMap_cons, List.append_assoc]
    have ih := many_flat l r fun q hq => h q (by simp [hq])
    rw [e, List.length_cons, many, one_mB (h m (by simp))]
    simp only [ne_eq, not_true_eq_false, if_false]
    rw [ih]
theorem tk_enc {l : List M} (h : chk l = 0) (r : List UInt8) : tk (encB l ++ r) = (l, r, 0) := by
  obtain ⟨h1, h2⟩ := chk_zero.1 h
  have hg : gotN (encB l ++ r) = (l.length, nd l.length + 1, 0) := by rw [encB, List.append_assoc]; exact got_num _ (by omega) _
  have hd : (encB l ++ r).drop (nd l.length + 1) = l.flatMap mB ++ r := by rw [encB, List.append_assoc, ← numL_length, List.drop_left]
  exact tk_ok hg (by omega) (by rw [hd]; exact many_flat l r h2) h
end Mt
end Go.Proofs.YtjpgglajcelllaaDoor
end
/- Rows of matchers in memory (layer 11); a row of matchers among the arguments. -/
section
set_option maxRecDepth 100000
namespace Go.Proofs.YtjpgglajcelllaaDoor
open Go.RowKit Go.ChangeShapes Go.WideShapes
namespace Mt
open Bit Dsk Ob Dig
set_option linter.unusedVariables false
def layM : Rw.Lay M := ⟨3, by decide, fun m => [.int .i64 m.1, .string m.2.1, .string m.2.2], fun _ => rfl, fun m u hu => by
  simp only [List.mem_cons, List.not_mem_nil, or_false] at hu
  rcases hu with rfl | rfl | rfl <;> rfl⟩
abbrev All : Nat → Prop := fun _ => True
/-- v reads as the matchers l, out of a block of S. -/
abbrev View := Rw.View layM
theorem View.cells {w : World} {S : Nat → Prop} {A : Option Addr} {n c : Nat} {l : List M} (h : View w S (.slice A n c) l) (hp : 0 < l.length) : ∃ b off, A = some ⟨b, off, none⟩ ∧ S b ∧ b < w.heap.size ∧
    ∀ i (hi : i < l.length), w.cell? ⟨b, off + i * 3, none⟩ = some (.int .i64 l[i].1) ∧ w.cell? ⟨b, off + i * 3 + 1, none⟩ = some (.string l[i].2.1) ∧ w.cell? ⟨b, off + i * 3 + 2, none⟩ = some (.string l[i].2.2) := by
  obtain ⟨b, off, h1, h2, h3, h4⟩ := Rw.View.open h hp
  exact ⟨b, off, h1, h2, h3, fun i hi => ⟨h4 i hi 0 _ rfl, h4 i hi 1 _ rfl, h4 i hi 2 _ rfl⟩⟩
def Bnd1 (m : M) : Prop := -9223372036854775808 ≤ m.1 ∧ m.1 ≤ 9223372036854775807 ∧ m.2.1.size ≤ 9223372036854775807 ∧ m.2.2.size ≤ 9223372036854775807
def Bnd (l : List M) : Prop := ∀ m ∈ l, Bnd1 m
theorem lit64 {k : Int} (h : (Lit.int .i64 k).wf = true) : -9223372036854775808 ≤ k ∧ k ≤ 9223372036854775807 := by
  simp [Lit.wf, IntKind.min, IntKind.max, IntKind.signed, IntKind.bits] at h
  exact ⟨by omega, by omega⟩
end Mt
end Go.Proofs.YtjpgglajcelllaaDoor
end
/- The document's own matchers (layer 11): right, Check, holds, Is, Same. -/
section
set_option maxRecDepth 100000
namespace Go.Proofs.YtjpgglajcelllaaDoor
open Go.RowKit Go.Sort
namespace Mt
open Bit Dsk Ob Dig
set_option linter.unusedVariables false
end Mt
end Go.Proofs.YtjpgglajcelllaaDoor
end
/- The document's own matchers (layer 11): holds, Is, Same. -/
section
set_option maxRecDepth 100000
namespace Go.Proofs.YtjpgglajcelllaaDoor
open Go.RowKit Go.Sort
namespace Mt
open Bit Dsk Ob Dig
set_option linter.unusedVariables false
end Mt
end Go.Proofs.YtjpgglajcelllaaDoor
end
/- The document's own matchers (layer 11): Encode, Take, Get. -/
section
set_option maxRecDepth 100000
namespace Go.Proofs.YtjpgglajcelllaaDoor
open Go.RowKit Go.Sort
namespace Mt
open Bit Dsk Ob Dig
set_option linter.unusedVariables false
/-- The bytes so far. -/
def So (l : List M) (j : Nat) (s : ByteArray) : Prop := s.data.toList = numL l.length ++ (l.take j).flatMap mB
def numA (n : Nat) : ByteArray := ⟨(numL n).toArray⟩
theorem numA_few (n : Nat) : (numA n).size ≤ 9 := by
  show (numL n).toArray.size ≤ 9
  rw [List.size_toArray, numL_length]; have := nd_le n; omega
theorem So.step {l : List M} {j : Nat} {s : ByteArray} (h : So l j s) (hj : j < l.length) : So l (j + 1) (s ++ numA l[j].1.toNat ++ textA l[j].2.1 ++ textA l[j].2.2) := by
  unfold So at *
  rw [ByteArray.data_append, Array.toList_append, ByteArray.data_append, Array.toList_append, ByteArray.data_append, Array.toList_append, h, textA_list, textA_list, List.take_succ_eq_append_getElem hj, List.flatMap_append]
  simp [mB, Lb.pB, numA, List.append_assoc]
theorem So.last {l : List M} {j : Nat} {s : ByteArray} (h : So l j s) (hj : ¬ j < l.length) : s = ⟨(encB l).toArray⟩ := by
  refine Lb.data_inj ?_
  rw [h, List.take_of_length_le (by omega)]; rfl
theorem So.size {l : List M} {j : Nat} {s : ByteArray} (h : So l j s) (hok : chk l = 0) : s.size ≤ 1000 := by
  obtain ⟨h8, hr⟩ := chk_zero.1 hok
  have h1 := nd_le l.length
  have h2 : ((l.take j).flatMap mB).length ≤ 123 * (l.take j).length := flat_len fun p hp => hr p (List.mem_of_mem_take hp)
  have h3 : (l.take j).length ≤ 8 := by rw [List.length_take]; omega
  have h4 : s.data.toList.length = s.size := by simp
  have h5 := congrArg List.length h
  rw [List.length_append, numL_length] at h5
  omega
end Mt
end Go.Proofs.YtjpgglajcelllaaDoor
end
/- The document's own matchers (layer 11): In's methods beside other objects; Take. -/
section
set_option maxRecDepth 100000
namespace Go.Proofs.YtjpgglajcelllaaDoor
open Go.RowKit Go.Sort
namespace Mt
open Bit Dsk Ob Dig Lb
set_option linter.unusedVariables false
/-! ### In, beside whatever else -/
/-! ### Take -/
/-- How far Take is. -/
def St (s : List UInt8) (n e j : Nat) (l : List M) (r : List UInt8) : Prop := (e ≠ 0 ∧ (tk s).2.2 = e) ∨ (e = 0 ∧ ∃ k, gotN s = (n, k, 0) ∧ ¬ 8 < n ∧ Read n (s.drop k) j l r)
theorem St.few {s : List UInt8} {n j : Nat} {l : List M} {r : List UInt8} (h : St s n 0 j l r) : l.length = j ∧ j ≤ n ∧ n ≤ 8 := by
  rcases h with ⟨h, -⟩ | ⟨-, k, -, h2, h3, h4, -⟩
  · exact absurd rfl h
  · exact ⟨h4, h3, by omega⟩
theorem St.step {s : List UInt8} {n j : Nat} {l : List M} {r r1 : List UInt8} {m : M} (h : St s n 0 j l r) (hj : j < n) (h1 : one r = (m, r1, 0)) : St s n 0 (j + 1) (l ++ [m]) r1 := by
  rcases h with ⟨h, -⟩ | ⟨-, k, k1, k2, k3⟩
  · exact absurd rfl h
  · exact .inr ⟨rfl, k, k1, k2, k3.step hj h1⟩
/-- What Take leaves: the error; if there is none, the matchers, and what is left. -/
def TkE (s : List UInt8) (x : Nat) (l : List M) (r : List UInt8) : Prop := (tk s).2.2 = x ∧ (x = 0 → tk s = (l, r, 0))
theorem St.err {s : List UInt8} {n e j : Nat} {l : List M} {r : List UInt8} (h : St s n e j l r) (he : e ≠ 0) : TkE s e l r := by
  rcases h with ⟨-, h⟩ | ⟨h, -⟩
  · exact ⟨h, fun c => absurd c he⟩
  · exact absurd h he
theorem Bnd.snoc {l : List M} {m : M} (h : Bnd l) (hm : Bnd1 m) : Bnd (l ++ [m]) := fun x hx => by
  rcases List.mem_append.1 hx with hx | hx
  · exact h x hx
  · rw [List.mem_singleton.1 hx]; exact hm
end Mt
end Go.Proofs.YtjpgglajcelllaaDoor
end
/- The document's own matchers (layer 11): Take, Get. -/
section
set_option maxRecDepth 100000
namespace Go.Proofs.YtjpgglajcelllaaDoor
open Go.RowKit Go.Sort
namespace Mt
open Bit Dsk Ob Dig Lb
set_option linter.unusedVariables false
/-! ### Get -/
/-- What Get answers: the matchers, how many bytes were theirs, the error. -/
def got (s : List UInt8) : List M × Nat × Nat := if (tk s).2.2 = 0 then ((tk s).1, s.length - (tk s).2.1.length, 0) else ([], 0, (tk s).2.2)
/-- What Get's end is. -/
def GetE (w : World) (sl : List UInt8) (e : Ending) (w' : World) : Prop := ∃ v, e = .returned (.tuple #[v, .int .i64 ((got sl).2.1 : Int), .int .i64 ((got sl).2.2 : Int)]) ∧ View w' All v (got sl).1 ∧ New0 w w'
theorem GetE.no {w w' : World} {sl : List UInt8} {x : Nat} {z : Int} (h : got sl = ([], 0, x)) (hz : z = x) (hu : New0 w w') : GetE w sl (.returned (.tuple #[.slice none 0 0, .int .i64 0, .int .i64 z])) w' := by
  subst hz
  unfold GetE
  rw [h]
  exact ⟨_, rfl, Rw.View.noth _ _ _, hu⟩
end Mt
end Go.Proofs.YtjpgglajcelllaaDoor
end
