/- Blocks (layer 15): their bytes as they are put together, one string behind the other. Names no function of the program. -/
import Derived.Test.YtlgjbcmloochiaaGreatDoorZaBkRow
import Derived.Test.YtlgjbcmloochiaaGreatDoorZaPRc4
import Derived.Test.YtlgjbcmloochiaaGreatDoorZaPCk1
set_option maxRecDepth 100000
namespace Go.Proofs.YtlgjbcmloochiaaGreatDoor
open Go.RowKit
namespace Bk
open Bit Dsk Ob Dig
set_option linter.unusedVariables false

/-- A block that is not too great to be written. -/
structure Few (b : B) : Prop where
  rows : b.rows.length ≤ 100000
  dels : b.dels.length ≤ 100000
  pts : ∀ r ∈ b.rows, r.pts.length ≤ 100000
abbrev numA := Mt.numA
theorem bts_eq {s : ByteArray} {l : List UInt8} (h : s.data.toList = l) : s = bts l := Lb.data_inj (h.trans (bts_list l).symm)
theorem numA_l (n : Nat) : (numA n).data.toList = numL n := Rc.numA_list n
theorem app_l (a b : ByteArray) : (a ++ b).data.toList = a.data.toList ++ b.data.toList := Rc.app_list a b
theorem textA_l (l : List UInt8) : (textA (bts l)).data.toList = txtL l := by rw [textA_list, bts_list, bts_size]; rfl
theorem headA (b : B) : numA b.first.toNat ++ numA b.til.toNat ++ numA b.rows.length ++ numA b.dels.length = bts (headL b) := by
  apply bts_eq
  simp only [app_l, numA_l, headL, List.append_assoc]
/-! ### a row -/
def RowTo (r : Row) (k : Nat) (d : ByteArray) : Prop := d.data.toList = txtL (Lb.encB r.lab) ++ (numL (zig r.last) ++ ((parts r.pts).take k).flatMap partL)
theorem RowTo.start (r : Row) : RowTo r 0 (textA (bts (Lb.encB r.lab)) ++ numA (zig r.last)) := by
  unfold RowTo
  rw [app_l, textA_l, numA_l]; simp
theorem parts_len (l : List Pt) : (parts l).length = Ck.nparts l := by simp [parts]
theorem parts_at {l : List Pt} {k : Nat} (h : k < Ck.nparts l) : (parts l).take (k + 1) = (parts l).take k ++ [Ck.part l k] := by
  rw [List.take_succ_eq_append_getElem (by rw [parts_len]; exact h)]
  congr 2
  simp [parts]
theorem RowTo.step {r : Row} {k : Nat} {d : ByteArray} (h : RowTo r k d) (hk : k < Ck.nparts r.pts) : RowTo r (k + 1) (d ++ textA (bts (Ck.code (Ck.part r.pts k)))) := by
  unfold RowTo at *
  rw [app_l, h, parts_at hk, List.flatMap_append, textA_l]
  simp [partL, List.append_assoc]
theorem RowTo.last {r : Row} {k : Nat} {d : ByteArray} (h : RowTo r k d) (hk : ¬ k < Ck.nparts r.pts) : d = bts (rowL r) := by
  apply bts_eq
  rw [h, List.take_of_length_le (by rw [parts_len]; omega)]
  rfl
theorem parts_size : ∀ (ps : List (List Pt)), (∀ p ∈ ps, p.length ≤ 64) → (ps.flatMap partL).length ≤ 2009 * ps.length
  | [], _ => by simp
  | p :: ps, h => by
    have h1 := Ck.code_size (h p (by simp))
    have h2 := parts_size ps fun q hq => h q (by simp [hq])
    have h3 := nd_le (Ck.code p).length
    simp only [List.flatMap_cons, List.length_append, List.length_cons, partL, txtL, numL_length] at h2 ⊢
    omega
theorem RowTo.size {r : Row} {k : Nat} {d : ByteArray} (h : RowTo r k d) (hl : Lb.Ok r.lab) (hp : r.pts.length ≤ 100000) : d.size ≤ 4000000 := by
  have h1 := Rc.encL_len hl
  have h2 := nd_le (zig r.last)
  have h3 := nd_le (Lb.encB r.lab).length
  have h4 : (((parts r.pts).take k).flatMap partL).length ≤ 2009 * ((parts r.pts).take k).length := parts_size _ fun p hp => by
    obtain ⟨i, hi, rfl⟩ := mem_parts (List.mem_of_mem_take hp)
    exact (Ck.part_len hi).2
  have h5 : ((parts r.pts).take k).length ≤ 1563 := by rw [List.length_take, parts_len]; unfold Ck.nparts; omega
  have h6 := congrArg List.length h
  rw [Frm.size_list, List.length_append, List.length_append, txtL, List.length_append, numL_length, numL_length] at h6
  omega
/-! ### frames -/
theorem putS_ok {k : Nat} {s : ByteArray} (h1 : 1 ≤ k) (h2 : k ≤ 255) (h : s.size ≤ 65536) : Frm.putS (k : Int) s = Frm.putA k s ∧ Frm.putE (k : Int) s = 0 := by
  unfold Frm.putS Frm.putE
  have h0 : ¬ ((k : Int) < 1 ∨ 255 < (k : Int)) := by omega
  have h9 : ¬ 65536 < s.size := by omega
  rw [if_neg h0, if_neg h0, if_neg h9, if_neg h9]
  exact ⟨by rw [Int.toNat_natCast], rfl⟩
theorem putS_long {k : Nat} {s : ByteArray} (h1 : 1 ≤ k) (h2 : k ≤ 255) (h : 65536 < s.size) : Frm.putS (k : Int) s = ⟨#[]⟩ ∧ Frm.putE (k : Int) s = 8 := by
  unfold Frm.putS Frm.putE
  have h0 : ¬ ((k : Int) < 1 ∨ 255 < (k : Int)) := by omega
  rw [if_neg h0, if_neg h0, if_pos h, if_pos h]
  exact ⟨rfl, rfl⟩
theorem putA_few (k : Nat) {s : ByteArray} (h : s.size ≤ 65536) : (Frm.putA k s).size ≤ 65600 := by
  rw [Frm.putA_size]
  have := nd_le s.size
  omega
/-- The rows' frames so far. -/
structure SoR (b : B) (j : Nat) (s : ByteArray) : Prop where
  is : s.data.toList = Frm.allA (headF b :: (b.rows.take j).map rowF)
  few : ∀ i (h : i < b.rows.length), i < j → (rowL b.rows[i]).length ≤ 65536
  size : s.size ≤ 65600 * (j + 1)
theorem SoR.start (b : B) : SoR b 0 (Frm.putA 2 (bts (headL b))) := by
  refine ⟨by simp [Frm.allA, headF], fun i _ h => absurd h (Nat.not_lt_zero i), ?_⟩
  have := putA_few 2 (s := bts (headL b)) (by rw [bts_size]; have := headL_len b; omega)
  omega
theorem SoR.step {b : B} {j : Nat} {s : ByteArray} (h : SoR b j s) (hj : j < b.rows.length) (hl : (rowL b.rows[j]).length ≤ 65536) : SoR b (j + 1) (s ++ Frm.putA 3 (bts (rowL b.rows[j]))) := by
  refine ⟨?_, fun i hi hij => ?_, ?_⟩
  · rw [app_l, h.is, List.take_succ_eq_append_getElem hj, List.map_append, ← List.cons_append, Frm.allA_append]
    simp [Frm.allA, rowF]
  · rcases Nat.lt_succ_iff_lt_or_eq.1 hij with h1 | rfl
    · exact h.few i hi h1
    · exact hl
  · have h1 := putA_few 3 (s := bts (rowL b.rows[j])) (by rw [bts_size]; exact hl)
    have h2 := h.size
    rw [ByteArray.size_append]; omega
/-- .. and the deletes'. -/
structure SoD (b : B) (j : Nat) (s : ByteArray) : Prop where
  is : s.data.toList = Frm.allA (headF b :: (b.rows.map rowF ++ (b.dels.take j).map delF))
  few : ¬ Long b
  size : s.size ≤ 65600 * (b.rows.length + 1 + j)
theorem SoR.toD {b : B} {j : Nat} {s : ByteArray} (h : SoR b j s) (hj : ¬ j < b.rows.length) (hj2 : j ≤ b.rows.length) : SoD b 0 s := by
  refine ⟨?_, ?_, by have := h.size; omega⟩
  · rw [h.is, List.take_of_length_le (by omega)]; simp
  · rintro ⟨r, hr, hl⟩
    obtain ⟨i, hi, rfl⟩ := List.mem_iff_getElem.1 hr
    have := h.few i hi (by omega)
    omega
theorem delF_few {r : Rc.R} (h : DelOk r) : (bts (Rc.encB r)).size ≤ 65536 := by
  rw [bts_size]
  have := Rc.encB_len h.2
  omega
theorem SoD.step {b : B} {j : Nat} {s : ByteArray} (h : SoD b j s) (hj : j < b.dels.length) (hd : DelOk b.dels[j]) : SoD b (j + 1) (s ++ Frm.putA 4 (bts (Rc.encB b.dels[j]))) := by
  refine ⟨?_, h.few, ?_⟩
  · rw [app_l, h.is, List.take_succ_eq_append_getElem hj, List.map_append, ← List.append_assoc, ← List.cons_append, Frm.allA_append]
    simp only [List.map_cons, List.map_nil, Frm.allA, Frm.allA_append, List.append_nil, List.append_assoc, delF]
  · have h1 := putA_few 4 (delF_few hd)
    have h2 := h.size
    rw [ByteArray.size_append]; omega
theorem SoD.last {b : B} {j : Nat} {s : ByteArray} (h : SoD b j s) (hj : ¬ j < b.dels.length) : s.data.toList = Frm.allA (frs b) := by
  rw [h.is, List.take_of_length_le (by omega)]; rfl
theorem code_end {b : B} {s : ByteArray} (h : s.data.toList = Frm.allA (frs b)) : s ++ Frm.putA 5 (Frm.sumB (Crc.more 0 s.data.toList)) = bts (code b) := by
  apply bts_eq
  rw [app_l, h, code_cut]
  simp [Frm.allA, endF]
theorem end_few (c : Nat) : (Frm.sumB c).size ≤ 65536 := by rw [Frm.sumB_size]; decide
/-- What Encode tells. -/
noncomputable def encR (b : B) : Ending := .returned (.tuple #[.string (bts (enc b).1), .int .i64 ((enc b).2 : Int)])
theorem encR_chk {b : B} {z : Nat} (h : chk b = z) (h0 : z ≠ 0) : Ending.returned (.tuple #[.string ⟨#[]⟩, .int .i64 (z : Int)]) = encR b := by unfold encR; rw [enc_chk (by rw [h]; exact h0), h]; rfl
theorem encR_long {b : B} (h : chk b = 0) {j : Nat} (hj : j < b.rows.length) (hl : 65536 < (rowL b.rows[j]).length) : Ending.returned (.tuple #[.string ⟨#[]⟩, .int .i64 8]) = encR b := by
  unfold encR; rw [enc_long h ⟨_, List.getElem_mem hj, hl⟩]; rfl
theorem encR_ok {b : B} (h : chk b = 0) {s : ByteArray} {j : Nat} (hs : SoD b j s) (hj : ¬ j < b.dels.length) : Ending.returned (.tuple #[.string (s ++ Frm.putA 5 (Frm.sumB (Crc.more 0 s.data.toList))), .int .i64 0]) = encR b := by
  unfold encR; rw [enc_ok h hs.few, code_end (hs.last hj)]; rfl
/-! ### points, as a chunk reads them -/
theorem ptsView {w : World} {S : Nat → Prop} {v : Value} {l : List Pt} (h : Rw.View Hd.layP w S v l) : Ck.View w S v l := by
  obtain ⟨A, c, rfl, h1, h2⟩ := Rw.View.shape h
  refine ⟨A, c, rfl, h1, h2, fun hp => ?_⟩
  obtain ⟨b, off, k1, k2, k3, k4⟩ := Rw.View.open h hp
  exact ⟨b, off, k1, k2, fun i hi => ⟨k4 i hi 0 _ rfl, k4 i hi 1 _ rfl⟩⟩
end Bk
end Go.Proofs.YtlgjbcmloochiaaGreatDoor
