/- Parts: PLb2. -/
import Derived.Test.YtgmnhodajngchaaGreatDoorSPLb1
import Derived.Lib.Bytealg
import Derived.Lib.Small
import Derived.Laws.RangeString
import Derived.Laws.RangeAny
import Derived.Lib.QuietBelow
set_option maxRecDepth 100000
set_option linter.unusedVariables false
namespace Go.Proofs.YtgmnhodajngchaaGreatDoor
section
section
open Go.RowKit Go.Sort
namespace Lb
open Bit Dsk Ob Dig
theorem cb_less : ∀ x y : List UInt8, Op.bytesLess x y = true -> Lib.compareBytes x y = -1
 | _, [], h => by simp [Op.bytesLess] at h
 | [], _ :: _, _ => rfl
 | a :: x, b :: y, h => by
  simp only [Op.bytesLess, Bool.or_eq_true, decide_eq_true_eq, Bool.and_eq_true, beq_iff_eq] at h
  unfold Lib.compareBytes
  rcases h with h | ⟨rfl, h⟩
  ·rw [if_pos h]
  ·rw [if_neg (UInt8.lt_irrefl a), if_neg (UInt8.lt_irrefl a)]; exact cb_less x y h
theorem cb_more : ∀ x y : List UInt8, Op.bytesLess y x = true -> Lib.compareBytes x y = 1
 | [], _, h => by simp [Op.bytesLess] at h
 | _ :: _, [], _ => rfl
 | a :: x, b :: y, h => by
  simp only [Op.bytesLess, Bool.or_eq_true, decide_eq_true_eq, Bool.and_eq_true, beq_iff_eq] at h
  unfold Lib.compareBytes
  rcases h with h | ⟨rfl, h⟩
  ·have h2 : ¬ a < b := fun k => by rw [UInt8.lt_iff_toNat_lt] at h k; omega
   rw [if_neg h2, if_pos h]
  ·rw [if_neg (UInt8.lt_irrefl b), if_neg (UInt8.lt_irrefl b)]; exact cb_more x y h
theorem cb_of_lt {a b : ByteArray} (h : lt a b = true) : Lib.compareBytes a.data.toList b.data.toList = -1 := by
 have := cb_less _ _ h; rwa [ByteArray.toList_eq, ByteArray.toList_eq] at this
theorem cb_of_gt {a b : ByteArray} (h : lt b a = true) : Lib.compareBytes a.data.toList b.data.toList = 1 := by
 have := cb_more _ _ h; rwa [ByteArray.toList_eq, ByteArray.toList_eq] at this
set_option maxHeartbeats 800000 in
theorem bytealgcmp_any (a b : ByteArray) (w : World) :
  Calls Tryz.prog 209 #[.string a, .string b] w fun e w' => e = .returned (.int .i64 (Lib.compareBytes a.data.toList b.data.toList)) /\ w' = w := by
 go_enter Tryz.func209, Tryz.ntmps209
 go_wp2
 rw [run_callFunc_extern Tryz.func226 (by kernel_rfl) (by kernel_rfl) (by kernel_rfl) (e := Extern.BytealgCompare.compare) (by kernel_rfl), Lib.run_compareString]
 simp only [Result.andThen]
 rw [Oper.upon_value]
 go_wp2
 go_ret
 exact ⟨rfl, rfl⟩
theorem strcmp_any (a b : ByteArray) (w : World) :
  Calls Tryz.prog 183 #[.string a, .string b] w fun e w' => e = .returned (.int .i64 (Lib.compareBytes a.data.toList b.data.toList)) /\ w' = w := by
 go_enter Tryz.func183, Tryz.ntmps183
 go_wp2_with (go_at_call 209; refine (bytealgcmp_any _ _ _).mono ?_; rintro e w' ⟨rfl, rfl⟩)
 go_ret
 exact ⟨rfl, rfl⟩
theorem isnan_any (x : Int) (w : World) :
  Calls Tryz.prog 184 #[.int .i64 x] w fun e w' => e = .returned (.bool false) /\ w' = w := by
 go_enter Tryz.func184, Tryz.ntmps184
 go_wp2_with fail
 go_ret
 exact ⟨by simp, rfl⟩
set_option maxHeartbeats 800000 in
theorem cmpint_any (x y : Int) (w : World) :
  Calls Tryz.prog 146 #[.int .i64 x, .int .i64 y] w fun e w' => e = .returned (.int .i64 (if x < y then -1 else if y < x then 1 else 0)) /\ w' = w := by
 obtain ⟨R, hR⟩ : ∃ R : Int, (if x < y then -1 else if y < x then 1 else 0) = R := ⟨_, rfl⟩
 rw [hR]
 by_cases h1 : x < y
 ·rw [if_pos h1] at hR
  replace hR := Lib.hid hR
  go_enter Tryz.func146, Tryz.ntmps146
  go_wp2_with (go_at_call 184; refine (isnan_any _ _).mono ?_; rintro e w' ⟨rfl, rfl⟩)
  go_ret
  exact ⟨ret_i hR.out, rfl⟩
 ·rw [if_neg h1] at hR
  by_cases h2 : y < x
  ·rw [if_pos h2] at hR
   replace hR := Lib.hid hR
   go_enter Tryz.func146, Tryz.ntmps146
   go_wp2_with (go_at_call 184; refine (isnan_any _ _).mono ?_; rintro e w' ⟨rfl, rfl⟩)
   go_ret
   exact ⟨ret_i hR.out, rfl⟩
  ·rw [if_neg h2] at hR
   replace hR := Lib.hid hR
   go_enter Tryz.func146, Tryz.ntmps146
   go_wp2_with (go_at_call 184; refine (isnan_any _ _).mono ?_; rintro e w' ⟨rfl, rfl⟩)
   go_ret
   exact ⟨ret_i hR.out, rfl⟩
theorem iscount_any (x : Int) (w : World) :
  Calls Tryz.prog 142 #[.int .u64 x] w fun e w' => e = .returned (.bool (decide (1 <= x) && decide (x <= 8))) /\ w' = w := by
 by_cases h1 : 1 <= x
 ·have hR : Hid (decide (x <= 8) = (decide (1 <= x) && decide (x <= 8))) := Lib.hid (by rw [decide_eq_true h1, Bool.true_and])
  go_enter Tryz.func142, Tryz.ntmps142
  go_wp2_with fail
  go_ret
  exact ⟨ret_b hR.out, rfl⟩
 ·have hR : Hid (false = (decide (1 <= x) && decide (x <= 8))) := Lib.hid (by rw [decide_eq_false h1, Bool.false_and])
  go_enter Tryz.func142, Tryz.ntmps142
  go_wp2_with fail
  go_ret
  exact ⟨ret_b hR.out, rfl⟩
theorem iscount_nat (n : Nat) (w : World) {b : Bool} (h : b = true ↔ 1 <= n /\ n <= 8) :
  Calls Tryz.prog 142 #[.int .u64 (n : Int)] w fun e w' => e = .returned (.bool b) /\ w' = w :=
 (iscount_any n w).mono fun e w' ⟨h1, h2⟩ => ⟨by
  rw [h1]; congr 2
  rw [Bool.eq_iff_iff, h, Bool.and_eq_true, decide_eq_true_eq, decide_eq_true_eq]; omega, h2⟩
def cmpP (p q : Pr) : Int := if p.1 = q.1 then Lib.compareBytes p.2.data.toList q.2.data.toList else Lib.compareBytes p.1.data.toList q.1.data.toList
theorem cmpP_lt {p q : Pr} (h : ltP p q = true) : cmpP p q = -1 := by
 unfold cmpP
 rcases ltP_iff.1 h with h | ⟨h1, h2⟩
 ·rw [if_neg (lt_ne h), cb_of_lt h]
 ·rw [if_pos h1, cb_of_lt h2]
theorem cmpP_gt {p q : Pr} (h : ltP q p = true) : cmpP p q = 1 := by
 unfold cmpP
 rcases ltP_iff.1 h with h | ⟨h1, h2⟩
 ·rw [if_neg (lt_ne h).symm, cb_of_gt h]
 ·rw [if_pos h1.symm, cb_of_gt h2]
set_option maxHeartbeats 1600000 in
theorem cmppairs_any (p q : Pr) (w : World) :
  Calls Tryz.prog 145 #[.agg #[.string p.1, .string p.2], .agg #[.string q.1, .string q.2]] w fun e w' => e = .returned (.int .i64 (cmpP p q)) /\ New0 w w' := by
 obtain ⟨a1, a2⟩ := p
 obtain ⟨b1, b2⟩ := q
 obtain ⟨R, hR⟩ : ∃ R, cmpP (a1, a2) (b1, b2) = R := ⟨_, rfl⟩
 rw [hR]
 by_cases h1 : a1 = b1
 ·subst h1
  have hE : Hid (Lib.compareBytes a2.data.toList b2.data.toList = R) := Lib.hid (by rw [<- hR]; exact (if_pos rfl).symm)
  have d1 : (a1.toList == a1.toList) = true := beq_self_eq_true _
  clear hR
  go_enter Tryz.func145, Tryz.ntmps145
  go_wp2_with (go_at_call 183; refine (strcmp_any _ _ _).mono ?_; rintro e w' ⟨rfl, rfl⟩)
  go_ret
  exact ⟨ret_i hE.out, ((Upon.refl _ w).alloc _).alloc _⟩
 ·have hE : Hid (Lib.compareBytes a1.data.toList b1.data.toList = R) := Lib.hid (by rw [<- hR]; exact (if_neg h1).symm)
  have d1 : (a1.toList == b1.toList) = false := by rw [toList_beq]; exact decide_eq_false h1
  clear hR
  go_enter Tryz.func145, Tryz.ntmps145
  go_wp2_with (go_at_call 183; refine (strcmp_any _ _ _).mono ?_; rintro e w' ⟨rfl, rfl⟩)
  go_ret
  exact ⟨ret_i hE.out, ((Upon.refl _ w).alloc _).alloc _⟩
end Lb
end
section
open Go.RowKit Go.Sort
namespace Lb
open Bit Dsk Ob Dig
theorem upon_iter (w : World) (s : ByteArray) (p : Nat) : New0 w (w.iter s p) := (Upon.refl _ w).alloc _
theorem sign_at (s : ByteArray) (j : Nat) (h : j < s.size) : ∃ r k : Nat, Utf8.decode s j = (r, k) /\ ((s[j].toNat < 128 /\ r = s[j].toNat /\ k = 1) \/ (128 <= s[j].toNat /\ 128 <= r)) := by
 by_cases ha : s[j].toNat < 128
 ·exact ⟨_, _, decode_ascii s j h ha, .inl ⟨ha, rfl, rfl⟩⟩
 ·exact ⟨_, _, rfl, .inr ⟨by omega, (decode_high s j h (by omega)).1⟩⟩
theorem emp_size {s : ByteArray} (h : s.toList = []) : s.size = 0 := by
 rw [ByteArray.toList_eq] at h
 have := congrArg List.length h
 simpa using this
set_option maxHeartbeats 1600000 in
theorem isname_any (s : ByteArray) (w : World) :
  Calls Tryz.prog 143 #[.string s] w fun e w' => e = .returned (.bool (nm s)) /\ New0 w w' := by
 by_cases h0 : s.size = 0
 ·have hN : Hid (nm s = false) := Lib.hid (by simp [nm, h0])
  have d0 : (s.toList == []) = true := by
   rw [beq_iff_eq, ByteArray.toList_eq, <- List.length_eq_zero_iff]; simpa using h0
  go_enter Tryz.func143, Tryz.ntmps143
  go_wp2_with fail
  go_ret
  exact ⟨ret_b hN.out.symm, Upon.refl _ _⟩
 have d0 : (s.toList == []) = false := by
  rw [beq_eq_false_iff_ne]; exact fun e => h0 (emp_size e)
 by_cases h1 : 32 < s.size
 ·have hN : Hid (nm s = false) := Lib.hid (by
   cases h : nm s with
   | false => rfl
   | true => have := (nm_size h).2; omega)
  have d1 : (32 : Int) < (s.size : Int) := by omega
  go_enter Tryz.func143, Tryz.ntmps143
  go_wp2_with fail
  go_ret
  exact ⟨ret_b hN.out.symm, Upon.refl _ _⟩
 have d1 : ¬ (32 : Int) < (s.size : Int) := by omega
 have hs1 : 1 <= s.size := by omega
 have hs2 : s.size <= 32 := by omega
 clear h1 h0
 go_enter Tryz.func143, Tryz.ntmps143
 go_wp2_with fail
 clear d0 d1
 go_loopw [] (fun wr => ∃ j : Nat, j <= s.size /\ Hid (∀ i (h : i < s.size), i < j -> nmB s[i] = true) /\ wr = w.iter s j) (fun wr => s.size - wr.iterPos w.heap.size)
 case atStart => exact ⟨0, Nat.zero_le _, Lib.hid (fun i _ h => absurd h (Nat.not_lt_zero i)), rfl⟩
 case round =>
  obtain ⟨j, hj, hall, rfl⟩ := hrel
  by_cases hlt : j < s.size
  ·have hnx : Hid (nmB s[j] = true -> ∀ i (h : i < s.size), i < j + 1 -> nmB s[i] = true) := Lib.hid fun h0 i h1 h2 => by
    by_cases e : i = j
    ·subst e; exact h0
    ·exact hall.out i h1 (by omega)
   have hbad := Lib.hid (nm_no (s := s) hlt)
   clear hall
   obtain ⟨r, k, hd, hcase⟩ := sign_at s j hlt
   have hst : ∀ ty, (Instr.next (.pointer (some ⟨w.heap.size, 0, none⟩)) true ty).run Tryz.prog (w.iter s j) = .ok (.tuple #[.bool true, .int .i64 j, .int .i32 r]) (w.iter s (j + k)) := fun ty => by
    rw [run_next_any w s j ty hlt, hd]
   rcases hcase with ⟨hx, hr, rfl⟩ | ⟨hx, hr⟩
   ·have hB : Hid (nmB s[j] = ((decide (97 <= r) && decide (r <= 122)) || decide (r = 95))) := Lib.hid (by rw [hr]; rfl)
    clear hr
    by_cases c1 : r = 95
    ·subst c1
     have d1 : (((95 : Nat) : Int) != 95) = false := by decide
     have hG := Lib.hid (hnx.out (by rw [hB.out]; rfl))
     clear hnx hbad hB
     go_wp2_with fail
     go_roundw
     case rel => exact ⟨j + 1, hlt, hG, rfl⟩
     case measure => simp; omega
    ·have d2 : ((r : Int) != 95) = true := by rw [bne_iff_ne]; omega
     by_cases c2 : r < 97
     ·have d3 : (r : Int) < 97 := by omega
      have hN := Lib.hid (hbad.out (by rw [hB.out]; simp; omega))
      clear hnx hbad hB
      go_wp2_with fail
      go_ret
      exact ⟨ret_b hN.out.symm, upon_iter w s _⟩
     ·have d3 : ¬ (r : Int) < 97 := by omega
      by_cases c3 : 122 < r
      ·have d4 : (122 : Int) < (r : Int) := by omega
       have hN := Lib.hid (hbad.out (by rw [hB.out]; simp; omega))
       clear hnx hbad hB
       go_wp2_with fail
       go_ret
       exact ⟨ret_b hN.out.symm, upon_iter w s _⟩
      ·have d4 : ¬ (122 : Int) < (r : Int) := by omega
       have hG := Lib.hid (hnx.out (by rw [hB.out]; simp; omega))
       clear hnx hbad hB
       go_wp2_with fail
       go_roundw
       case rel => exact ⟨j + 1, hlt, hG, rfl⟩
       case measure => simp; omega
   ·have hB : Hid (nmB s[j] = false) := Lib.hid (by unfold nmB; simp; omega)
    have d2 : ((r : Int) != 95) = true := by rw [bne_iff_ne]; omega
    have d3 : ¬ (r : Int) < 97 := by omega
    have d4 : (122 : Int) < (r : Int) := by omega
    have hN := Lib.hid (hbad.out hB.out)
    clear hnx hbad hB
    go_wp2_with fail
    go_ret
    exact ⟨ret_b hN.out.symm, upon_iter w s _⟩
  ·have he := Lib.hid (nm_end hall.out hlt)
   have hN : Hid (nm s = true) := Lib.hid (by rw [he.out, decide_eq_true hs1, decide_eq_true hs2]; rfl)
   have hst : ∀ ty, (Instr.next (.pointer (some ⟨w.heap.size, 0, none⟩)) true ty).run Tryz.prog (w.iter s j) = _ := fun ty => run_next_end w s j ty hlt
   clear hall he
   go_wp2_with fail
   go_ret
   exact ⟨ret_b hN.out.symm, upon_iter w s j⟩
set_option maxHeartbeats 1600000 in
theorem isvalue_any (s : ByteArray) (w : World) :
  Calls Tryz.prog 144 #[.string s] w fun e w' => e = .returned (.bool (vl s)) /\ New0 w w' := by
 by_cases h0 : s.size = 0
 ·have hN : Hid (vl s = false) := Lib.hid (by simp [vl, h0])
  have d0 : (s.toList == []) = true := by
   rw [beq_iff_eq, ByteArray.toList_eq, <- List.length_eq_zero_iff]; simpa using h0
  go_enter Tryz.func144, Tryz.ntmps144
  go_wp2_with fail
  go_ret
  exact ⟨ret_b hN.out.symm, Upon.refl _ _⟩
 have d0 : (s.toList == []) = false := by
  rw [beq_eq_false_iff_ne]; exact fun e => h0 (emp_size e)
 by_cases h1 : 64 < s.size
 ·have hN : Hid (vl s = false) := Lib.hid (by
   cases h : vl s with
   | false => rfl
   | true => have := (vl_size h).2; omega)
  have d1 : (64 : Int) < (s.size : Int) := by omega
  go_enter Tryz.func144, Tryz.ntmps144
  go_wp2_with fail
  go_ret
  exact ⟨ret_b hN.out.symm, Upon.refl _ _⟩
 have d1 : ¬ (64 : Int) < (s.size : Int) := by omega
 have hs1 : 1 <= s.size := by omega
 have hs2 : s.size <= 64 := by omega
 clear h1 h0
 go_enter Tryz.func144, Tryz.ntmps144
 go_wp2_with fail
 clear d0 d1
 go_loopw [] (fun wr => ∃ j : Nat, j <= s.size /\ Hid (∀ i (h : i < s.size), i < j -> vlB s[i] = true) /\ wr = w.iter s j) (fun wr => s.size - wr.iterPos w.heap.size)
 case atStart => exact ⟨0, Nat.zero_le _, Lib.hid (fun i _ h => absurd h (Nat.not_lt_zero i)), rfl⟩
 case round =>
  obtain ⟨j, hj, hall, rfl⟩ := hrel
  by_cases hlt : j < s.size
  ·have hnx : Hid (vlB s[j] = true -> ∀ i (h : i < s.size), i < j + 1 -> vlB s[i] = true) := Lib.hid fun h0 i h1 h2 => by
    by_cases e : i = j
    ·subst e; exact h0
    ·exact hall.out i h1 (by omega)
   have hbad := Lib.hid (vl_no (s := s) hlt)
   clear hall
   obtain ⟨r, k, hd, hcase⟩ := sign_at s j hlt
   have hst : ∀ ty, (Instr.next (.pointer (some ⟨w.heap.size, 0, none⟩)) true ty).run Tryz.prog (w.iter s j) = .ok (.tuple #[.bool true, .int .i64 j, .int .i32 r]) (w.iter s (j + k)) := fun ty => by
    rw [run_next_any w s j ty hlt, hd]
   rcases hcase with ⟨hx, hr, rfl⟩ | ⟨hx, hr⟩
   ·have hB : Hid (vlB s[j] = (decide (32 <= r) && decide (r <= 126))) := Lib.hid (by rw [hr]; rfl)
    clear hr
    by_cases c2 : r < 32
    ·have d3 : (r : Int) < 32 := by omega
     have hN := Lib.hid (hbad.out (by rw [hB.out]; simp; omega))
     clear hnx hbad hB
     go_wp2_with fail
     go_ret
     exact ⟨ret_b hN.out.symm, upon_iter w s _⟩
    ·have d3 : ¬ (r : Int) < 32 := by omega
     by_cases c3 : 126 < r
     ·have d4 : (126 : Int) < (r : Int) := by omega
      have hN := Lib.hid (hbad.out (by rw [hB.out]; simp; omega))
      clear hnx hbad hB
      go_wp2_with fail
      go_ret
      exact ⟨ret_b hN.out.symm, upon_iter w s _⟩
     ·have d4 : ¬ (126 : Int) < (r : Int) := by omega
      have hG := Lib.hid (hnx.out (by rw [hB.out]; simp; omega))
      clear hnx hbad hB
      go_wp2_with fail
      go_roundw
      case rel => exact ⟨j + 1, hlt, hG, rfl⟩
      case measure => simp; omega
   ·have hB : Hid (vlB s[j] = false) := Lib.hid (by unfold vlB; simp; omega)
    have d3 : ¬ (r : Int) < 32 := by omega
    have d4 : (126 : Int) < (r : Int) := by omega
    have hN := Lib.hid (hbad.out hB.out)
    clear hnx hbad hB
    go_wp2_with fail
    go_ret
    exact ⟨ret_b hN.out.symm, upon_iter w s _⟩
  ·have he := Lib.hid (vl_end hall.out hlt)
   have hN : Hid (vl s = true) := Lib.hid (by rw [he.out, decide_eq_true hs1, decide_eq_true hs2]; rfl)
   have hst : ∀ ty, (Instr.next (.pointer (some ⟨w.heap.size, 0, none⟩)) true ty).run Tryz.prog (w.iter s j) = _ := fun ty => run_next_end w s j ty hlt
   clear hall he
   go_wp2_with fail
   go_ret
   exact ⟨ret_b hN.out.symm, upon_iter w s j⟩
end Lb
end
section
open Go.RowKit Go.Sort
namespace Lb
open Bit Dsk Ob Dig
theorem cmpP_eq (l m : List Pr) {j : Nat} (ha : j < l.length) (hb : j < m.length) (hn : l[j] ≠ m[j]) : cmp (l.drop j) (m.drop j) = cmpP l[j] m[j] := by
 rcases three l[j] m[j] with h | h | ⟨h1, h2, h3⟩
 ·rw [cmp_less ha hb h, cmpP_lt h]
 ·exact absurd h hn
 ·rw [cmp_gr ha hb h1 h2, cmpP_gt h3]
theorem cmp_tail (l m : List Pr) {j : Nat} (h : j = min l.length m.length) : cmp (l.drop j) (m.drop j) = if (l.length : Int) < (m.length : Int) then -1 else if (m.length : Int) < (l.length : Int) then 1 else 0 := by
 by_cases ha : j < l.length
 ·have hb : ¬ j < m.length := by omega
  rw [cmp_end2 ha hb, if_neg (by omega), if_pos (by omega)]
 ·by_cases hb : j < m.length
  ·rw [cmp_end1 ha hb, if_pos (by omega)]
  ·rw [cmp_end0 ha hb, if_neg (by omega), if_neg (by omega)]
theorem pairQ {w : World} {p q : Pr} {z : Int} (h : cmpP p q = z) (d : Nat) (os : Array Go.Obj) :
  Calls Tryz.prog 145 #[.agg #[.string p.1, .string p.2], .agg #[.string q.1, .string q.2]] (grow (redrawn w d) os) fun e w' => e = .returned (.int .i64 z) /\ Below (grow (redrawn w d) os).heap.size (grow (redrawn w d) os) w' := by
 subst h
 exact (cmppairs_any p q _).mono fun e w' ⟨h1, h2⟩ => ⟨h1, belowOf h2⟩
set_option maxHeartbeats 3200000 in
theorem compare_any (w : World) (S S' : Nat -> Prop) (v1 v2 : Value) (l m : List Pr) (h1 : View w S v1 l) (h2 : View w S' v2 m) :
  Calls Tryz.prog 96 #[v1, v2] w fun e w' => e = .returned (.int .i64 (cmp l m)) /\ New0 w w' := by
 obtain ⟨A, c, rfl, hc1, hc2⟩ := Rw.View.shape h1
 obtain ⟨A', c', rfl, hc1', hc2'⟩ := Rw.View.shape h2
 have hl := Nat.le_trans hc1 hc2
 have hl' := Nat.le_trans hc1' hc2'
 unfold maxLen at hl hl'
 clear hc1 hc2 hc1' hc2'
 replace h1 := Lib.hid h1
 replace h2 := Lib.hid h2
 obtain ⟨R, hR⟩ : ∃ R : Int, (if (l.length : Int) < (m.length : Int) then -1 else if (m.length : Int) < (l.length : Int) then 1 else 0) = R := ⟨_, rfl⟩
 have HT := Lib.hid (fun w => by have := cmpint_any (l.length : Int) (m.length : Int) w; rw [hR] at this; exact this)
 have htail : Hid (∀ j : Nat, j = min l.length m.length -> cmp (l.drop j) (m.drop j) = R) := Lib.hid (fun j h => by rw [cmp_tail l m h, hR])
 clear hR
 go_enter Tryz.func96, Tryz.ntmps96
 go_wp2_with fail
 all_goals
  go_loopw [11] (fun ov wr => ∃ j : Nat, ov = .int .i64 (j : Int) /\ j <= l.length /\ j <= m.length /\ Hid (cmp (l.drop j) (m.drop j) = cmp l m) /\ Hid (New0 w wr)) (fun ov _ => l.length - (intOf ov).toNat)
  case atStart => exact ⟨0, rfl, Nat.zero_le _, Nat.zero_le _, Lib.hid rfl, Lib.hid (Upon.refl _ _)⟩
  case round =>
   obtain ⟨j, rfl, hj, hj', hg, hu⟩ := hrel
   by_cases hmin : j < min l.length m.length
   ·have hlt : j < l.length := by omega
    have hlt' : j < m.length := by omega
    obtain ⟨b, off, rfl, -, -, hcells⟩ := View.cells h1.out (by omega)
    obtain ⟨b', off', rfl, -, -, hcells'⟩ := View.cells h2.out (by omega)
    obtain ⟨x0, x1⟩ := hcells j hlt
    obtain ⟨y0, y1⟩ := hcells' j hlt'
    have r0 := New0.cells hu.out x0
    have r1 := New0.cells hu.out x1
    have s0 := New0.cells hu.out y0
    have s1 := New0.cells hu.out y1
    clear hcells hcells' h1 h2 hmin x0 x1 y0 y1 htail HT
    have q1 := Lib.hid (fun h => (cmp_step hlt hlt' h).symm.trans hg.out)
    have q2 := Lib.hid (fun h => (cmpP_eq l m hlt hlt' h).symm.trans hg.out)
    clear hg
    obtain ⟨p, hp⟩ : ∃ p, l[j] = p := ⟨_, rfl⟩
    obtain ⟨q, hq⟩ : ∃ q, m[j] = q := ⟨_, rfl⟩
    rw [hp] at r0 r1 q1 q2
    rw [hq] at s0 s1 q1 q2
    clear hp hq
    by_cases he : p = q
    ·have hR := Lib.hid (q1.out he)
     subst he
     obtain ⟨a1, a2⟩ := p
     clear q1 q2
     go_wp2_with fail
     go_quiet (fail)
     go_wp2_with fail
     go_roundw
     case rel => exact ⟨j + 1, by go_num, hlt, hlt', hR, Lib.hid (hu.out.trans (upon_drewN _ wr _))⟩
     case measure => simp [intOf]; omega
    ·have hR := Lib.hid (q2.out he)
     obtain ⟨a1, a2⟩ := p
     obtain ⟨b1, b2⟩ := q
     by_cases e1 : a1 = b1
     ·subst e1
      have e2 : ¬ a2 = b2 := fun e2 => he (by rw [e2])
      have d4 : (a2.toList == b2.toList) = false := by rw [toList_beq]; exact decide_eq_false e2
      have d5 : decide (a2 = b2) = false := decide_eq_false e2
      clear q1 q2 he
      go_wp2_with fail
      go_quiet (fail)
      have t0 := New0.cells (upon_drewN _ wr nq) r0
      have t1 := New0.cells (upon_drewN _ wr nq) r1
      have t2 := New0.cells (upon_drewN _ wr nq) s0
      have t3 := New0.cells (upon_drewN _ wr nq) s1
      have hu2 := Lib.hid (hu.out.trans (upon_drewN _ wr nq))
      clear r0 r1 s0 s1 hu
      generalize wr.drewN nq = w5 at *
      have y0 := fun d os => cell_regrown t0 d os
      have y1 := fun d os => cell_regrown t1 d os
      have y2 := fun d os => cell_regrown t2 d os
      have y3 := fun d os => cell_regrown t3 d os
      have HP := Lib.hid (fun d os => pairQ (w := w5) hR.out d os)
      clear t0 t1 t2 t3
      go_wp2_with fail
      refine wp_region_quiet_below (by kernel_rfl) (by kernel_rfl) ?_
      repeat (go_big_quiet_step (first
       | exact Calls.regrown_of (HP.out _ _)))
      refine wpQuiet_nil ?_
      intro _ hw'
      obtain ⟨⟨dq, osq⟩, hw''⟩ := hw'
      subst hw''
      have hu6 := Lib.hid (hu2.out.trans (newOf (below_regrown w5 dq osq)))
      clear HP hu2 y0 y1 y2 y3 hR
      go_wp2_with fail
      go_ret
      exact ⟨rfl, hu6.out⟩
     ·have d4 : (a1.toList == b1.toList) = false := by rw [toList_beq]; exact decide_eq_false e1
      have d5 : decide (a1 = b1) = false := decide_eq_false e1
      clear q1 q2 he
      go_wp2_with fail
      go_quiet (fail)
      have t0 := New0.cells (upon_drewN _ wr nq) r0
      have t1 := New0.cells (upon_drewN _ wr nq) r1
      have t2 := New0.cells (upon_drewN _ wr nq) s0
      have t3 := New0.cells (upon_drewN _ wr nq) s1
      have hu2 := Lib.hid (hu.out.trans (upon_drewN _ wr nq))
      clear r0 r1 s0 s1 hu
      generalize wr.drewN nq = w5 at *
      have y0 := fun d os => cell_regrown t0 d os
      have y1 := fun d os => cell_regrown t1 d os
      have y2 := fun d os => cell_regrown t2 d os
      have y3 := fun d os => cell_regrown t3 d os
      have HP := Lib.hid (fun d os => pairQ (w := w5) hR.out d os)
      clear t0 t1 t2 t3
      go_wp2_with fail
      refine wp_region_quiet_below (by kernel_rfl) (by kernel_rfl) ?_
      repeat (go_big_quiet_step (first
       | exact Calls.regrown_of (HP.out _ _)))
      refine wpQuiet_nil ?_
      intro _ hw'
      obtain ⟨⟨dq, osq⟩, hw''⟩ := hw'
      subst hw''
      have hu6 := Lib.hid (hu2.out.trans (newOf (below_regrown w5 dq osq)))
      clear HP hu2 y0 y1 y2 y3 hR
      go_wp2_with fail
      go_ret
      exact ⟨rfl, hu6.out⟩
   ·have hfin := Lib.hid ((htail.out j (by omega)).symm.trans hg.out)
    first
     | (have hlt : ¬ j < m.length := by omega)
     | (have hlt : ¬ j < l.length := by omega)
    clear hg h1 h2 hmin htail
    go_wp2_with fail
    refine (HT.out _).mono ?_
    rintro e w2 ⟨rfl, rfl⟩
    clear HT
    go_wp2_with fail
    go_ret
    exact ⟨ret_i hfin.out, hu.out⟩
end Lb
end
section
open Go.RowKit Go.Sort
namespace Lb
open Bit Dsk Ob Dig
theorem newcell0 {w w' : World} {x y : ByteArray} (h : New0 (w.alloc (.cells #[.string x, .string y] 89 (0, 0))) w') : w'.cell? ⟨w.heap.size, 0, none⟩ = some (.string x) := New0.cells h (by rw [Lib.cell_of_heap (cell_new w _)]; rfl)
theorem newcell1 {w w' : World} {x y : ByteArray} (h : New0 (w.alloc (.cells #[.string x, .string y] 89 (0, 0))) w') : w'.cell? ⟨w.heap.size, 1, none⟩ = some (.string y) := New0.cells h (by rw [Lib.cell_of_heap (cell_new w _)]; rfl)
theorem nameP (s : ByteArray) {b : Bool} (h : nm s = b) (w : World) : Calls Tryz.prog 143 #[.string s] w fun e w' => e = .returned (.bool b) /\ New0 w w' := by
 subst h; exact isname_any s w
theorem valueP (s : ByteArray) {b : Bool} (h : vl s = b) (w : World) : Calls Tryz.prog 144 #[.string s] w fun e w' => e = .returned (.bool b) /\ New0 w w' := by
 subst h; exact isvalue_any s w
set_option maxHeartbeats 3200000 in
theorem check_any (w : World) (S : Nat -> Prop) (v : Value) (l : List Pr) (hv : View w S v l) (hsm : Sml l) :
  Calls Tryz.prog 95 #[v] w fun e w' => e = .returned (.int .i64 (chk l : Int)) /\ New0 w w' := by
 obtain ⟨A, c, rfl, hc1, hc2⟩ := Rw.View.shape hv
 have hlen := Nat.le_trans hc1 hc2
 unfold maxLen at hlen
 clear hc1 hc2
 replace hv := Lib.hid hv
 clear hsm
 by_cases h1 : ¬ (1 <= l.length /\ l.length <= 8)
 ·have hR : Hid ((16 : Int) = (chk l : Int)) := Lib.hid (by rw [chk_few (by omega)]; rfl)
  have HK := Lib.hid (fun w => iscount_nat l.length w (b := false) (by simp; omega))
  clear h1 hv
  go_enter Tryz.func95, Tryz.ntmps95
  go_wp2_with fail
  refine (HK.out _).mono ?_
  rintro e w1 ⟨rfl, rfl⟩
  clear HK
  go_wp2_with fail
  go_ret
  exact ⟨ret_i hR.out, Upon.refl _ _⟩
 have HK := Lib.hid (fun w => iscount_nat l.length w (b := true) (by simp; omega))
 obtain ⟨b, off, rfl, -, -, hcells⟩ := View.cells hv.out (by omega)
 replace hcells := Lib.hid hcells
 have hl1 : 1 <= l.length := by omega
 have hl8 : l.length <= 8 := by omega
 clear hv h1
 go_enter Tryz.func95, Tryz.ntmps95
 go_wp2_with fail
 refine (HK.out _).mono ?_
 rintro e w1 ⟨rfl, rfl⟩
 clear HK
 go_wp2_with fail
 go_loopw [12] (fun ov wr => ∃ j : Nat, ov = .int .i64 (j : Int) /\ j <= l.length /\ Hid (Good (l.take j)) /\ Hid (New0 w1 wr)) (fun ov _ => l.length - (intOf ov).toNat)
 case atStart => exact ⟨0, rfl, Nat.zero_le _, Lib.hid Good.nil, Lib.hid (Upon.refl _ _)⟩
 case round =>
  obtain ⟨j, rfl, hj, hg, hu⟩ := hrel
  by_cases hlt : j < l.length
  ·obtain ⟨x0, x1⟩ := hcells.out j hlt
   have r0 := New0.cells hu.out x0
   have r1 := New0.cells hu.out x1
   have hst := Lib.hid (hg.out.step hlt)
   have hR1 := Lib.hid (chk_name (l := l) hlt)
   have hR2 := Lib.hid (chk_value (l := l) hlt)
   have hR3 := Lib.hid (fun i hi hij => chk_order (l := l) (i := i) hi hlt hij)
   obtain ⟨a1, ha1⟩ : ∃ a1, l[j].1 = a1 := ⟨_, rfl⟩
   obtain ⟨a2, ha2⟩ : ∃ a2, l[j].2 = a2 := ⟨_, rfl⟩
   rw [ha1] at r0 hst hR1
   rw [ha2] at r1 hst hR2
   replace hR3 : Hid (∀ i (hi : i < l.length), j = i + 1 -> lt l[i].1 a1 = false -> chk l = 16) := Lib.hid (fun i hi hij h => hR3.out i hi hij (by rw [ha1]; exact h))
   clear ha1 ha2 hg x0 x1
   cases hn : nm a1 with
   | false =>
    have HN := Lib.hid (nameP a1 hn)
    have hR : Hid ((16 : Int) = (chk l : Int)) := Lib.hid (by rw [hR1.out hn]; rfl)
    clear hst hR1 hR2 hR3 hn hcells
    go_wp2_with fail
    refine (HN.out _).mono ?_
    rintro e w2 ⟨rfl, hu2⟩
    have c0 := newcell0 hu2
    have c1 := newcell1 hu2
    have hu3 := Lib.hid ((hu.out.alloc _).trans hu2)
    clear HN hu hu2 r0 r1
    go_wp2_with fail
    go_ret
    exact ⟨ret_i hR.out, hu3.out⟩
   | true =>
    have HN := Lib.hid (nameP a1 hn)
    cases hvv : vl a2 with
    | false =>
     have HV := Lib.hid (valueP a2 hvv)
     have hR : Hid ((16 : Int) = (chk l : Int)) := Lib.hid (by rw [hR2.out hvv]; rfl)
     clear hst hR1 hR2 hR3 hn hvv hcells
     go_wp2_with fail
     refine (HN.out _).mono ?_
     rintro e w2 ⟨rfl, hu2⟩
     have c0 := newcell0 hu2
     have c1 := newcell1 hu2
     have hu3 := Lib.hid ((hu.out.alloc _).trans hu2)
     clear HN hu hu2 r0 r1
     go_wp2_with fail
     refine (HV.out _).mono ?_
     rintro e w3 ⟨rfl, hu4⟩
     have hu5 := Lib.hid (hu3.out.trans hu4)
     clear HV hu3 hu4 c0 c1
     go_wp2_with fail
     go_ret
     exact ⟨ret_i hR.out, hu5.out⟩
    | true =>
     have HV := Lib.hid (valueP a2 hvv)
     by_cases h0 : j = 0
     ·have hG := Lib.hid (hst.out hn hvv (fun i _ e => by omega))
      have hj0 : decide (0 < j) = false := decide_eq_false (by omega)
      clear hst hR1 hR2 hR3 hn hvv h0
      go_wp2_with fail
      refine (HN.out _).mono ?_
      rintro e w2 ⟨rfl, hu2⟩
      have c0 := newcell0 hu2
      have c1 := newcell1 hu2
      have hu3 := Lib.hid ((hu.out.alloc _).trans hu2)
      clear HN hu hu2 r0 r1
      go_wp2_with fail
      refine (HV.out _).mono ?_
      rintro e w3 ⟨rfl, hu4⟩
      have hu5 := Lib.hid (hu3.out.trans hu4)
      have d0 := New0.cells hu4 c0
      clear HV hu3 hu4 c0 c1
      go_wp2_with fail
      go_quiet (fail)
      go_wp2_with fail
      go_roundw
      case rel => exact ⟨j + 1, by go_num, hlt, hG, Lib.hid (hu5.out.trans (upon_drewN _ w3 _))⟩
      case measure => simp [intOf]; omega
     ·obtain ⟨i, hi⟩ : ∃ i, j = i + 1 := ⟨j - 1, by omega⟩
      have hil : i < l.length := by omega
      have y0 := New0.cells hu.out (hcells.out i hil).1
      have hidx : IntKind.i64.wrap ((j : Int) - 1) = (i : Int) := by rw [IntKind.wrap_i64]; omega
      have hj0 : decide (0 < j) = true := decide_eq_true (by omega)
      replace hR3 := Lib.hid (hR3.out i hil hi)
      replace hst := Lib.hid (hst.out hn hvv)
      obtain ⟨p1, hp1⟩ : ∃ p1, l[i].1 = p1 := ⟨_, rfl⟩
      rw [hp1] at y0 hR3
      cases ho : lt p1 a1 with
      | false =>
       have hR : Hid ((16 : Int) = (chk l : Int)) := Lib.hid (by rw [hR3.out ho]; rfl)
       have d3 : (Op.bytesLess a1.toList p1.toList || a1.toList == p1.toList) = true := at_least ho
       clear hst hR1 hR2 hR3 hn hvv hp1 ho hi hcells
       go_wp2_with fail
       refine (HN.out _).mono ?_
       rintro e w2 ⟨rfl, hu2⟩
       have c0 := newcell0 hu2
       have c1 := newcell1 hu2
       have z0 := New0.cells (((Upon.refl _ wr).alloc _).trans hu2) y0
       have hu3 := Lib.hid ((hu.out.alloc _).trans hu2)
       clear HN hu hu2 r0 r1 y0
       go_wp2_with fail
       refine (HV.out _).mono ?_
       rintro e w3 ⟨rfl, hu4⟩
       have hu5 := Lib.hid (hu3.out.trans hu4)
       have d0 := New0.cells hu4 c0
       have d1 := New0.cells hu4 z0
       clear HV hu3 hu4 c0 c1 z0
       go_wp2_with fail
       go_quiet (fail)
       go_wp2_with fail
       go_ret
       exact ⟨ret_i hR.out, hu5.out.trans (upon_drewN _ w3 _)⟩
      | true =>
       have hG := Lib.hid (hst.out (fun i' h' e => by
        obtain rfl : i' = i := by omega
        rw [hp1]; exact ho))
       have d3 : (Op.bytesLess a1.toList p1.toList || a1.toList == p1.toList) = false := at_least ho
       clear hst hR1 hR2 hR3 hn hvv hp1 ho hi
       go_wp2_with fail
       refine (HN.out _).mono ?_
       rintro e w2 ⟨rfl, hu2⟩
       have c0 := newcell0 hu2
       have c1 := newcell1 hu2
       have z0 := New0.cells (((Upon.refl _ wr).alloc _).trans hu2) y0
       have hu3 := Lib.hid ((hu.out.alloc _).trans hu2)
       clear HN hu hu2 r0 r1 y0
       go_wp2_with fail
       refine (HV.out _).mono ?_
       rintro e w3 ⟨rfl, hu4⟩
       have hu5 := Lib.hid (hu3.out.trans hu4)
       have d0 := New0.cells hu4 c0
       have d1 := New0.cells hu4 z0
       clear HV hu3 hu4 c0 c1 z0
       go_wp2_with fail
       go_quiet (fail)
       go_wp2_with fail
       go_roundw
       case rel => exact ⟨j + 1, by go_num, hlt, hG, Lib.hid (hu5.out.trans (upon_drewN _ w3 _))⟩
       case measure => simp [intOf]; omega
  ·have hR : Hid ((0 : Int) = (chk l : Int)) := Lib.hid (by rw [chk_ok (Ok.of hl1 hl8 hlt hg.out)]; rfl)
   clear hg hcells
   go_wp2_with fail
   go_ret
   exact ⟨ret_i hR.out, hu.out⟩
end Lb
end
section
open Go.RowKit Go.Sort
namespace Lb
open Bit Dsk Ob Dig
theorem check_ok (w : World) (S : Nat -> Prop) (v : Value) (l : List Pr) (hv : View w S v l) (hsm : Sml l) (hok : Ok l) :
  Calls Tryz.prog 95 #[v] w fun e w' => e = .returned (.int .i64 0) /\ New0 w w' :=
 (check_any w S v l hv hsm).mono fun e w' ⟨h1, h2⟩ => ⟨by rw [h1, chk_ok hok]; rfl, h2⟩
theorem check_no (w : World) (S : Nat -> Prop) (v : Value) (l : List Pr) (hv : View w S v l) (hsm : Sml l) (hok : ¬ Ok l) :
  Calls Tryz.prog 95 #[v] w fun e w' => e = .returned (.int .i64 16) /\ New0 w w' :=
 (check_any w S v l hv hsm).mono fun e w' ⟨h1, h2⟩ => ⟨by rw [h1, chk_no hok]; rfl, h2⟩
end Lb
end
section
open Go.RowKit Go.Sort
namespace Lb
open Bit Dsk Ob Dig
theorem gettext_is {s : ByteArray} {m : Int} {n k x : Nat} (hs : s.size <= 4611686018427387904) (hm : m <= 9223372036854775807) (h : gotT s.data.toList m = (n, k, x)) (w : World) :
  Calls Tryz.prog 99 #[.string s, .int .i64 m] w fun e w' => e = .returned (.tuple #[.string (s.extract k (k + n)), .int .i64 ((k + n : Nat) : Int), .int .i64 (x : Int)]) /\ Below w.heap.size w w' := by
 have := Dig.gettext_any s m (by omega) hm w
 rw [h] at this
 simp only at this
 rw [<- Int.natCast_add] at this
 exact this
set_option maxHeartbeats 3200000 in
theorem getpair_any (s : ByteArray) (hs : s.size <= 4611686018427387904) (w : World) :
  Calls Tryz.prog 149 #[.string s] w fun e w' => (∃ (a b : ByteArray) (k x : Nat) (r1 : List UInt8), e = .returned (.tuple #[.agg #[.string a, .string b], .int .i64 (k : Int), .int .i64 (x : Int)]) /\
   ((x ≠ 0 /\ ((∃ a', txt 32 s.data.toList = (a', r1, x)) \/ ∃ a' b' r2, txt 32 s.data.toList = (a', r1, 0) /\ txt 64 r1 = (b', r2, x))) \/ (x = 0 /\ k <= s.size /\ txt 32 s.data.toList = (a, r1, 0) /\ txt 64 r1 = (b, (s.extract k s.size).data.toList, 0)))) /\ New0 w w' := by
 obtain ⟨n, k, x, hg⟩ : ∃ n k x, gotT s.data.toList 32 = (n, k, x) := ⟨_, _, _, rfl⟩
 have ht := txt_is hg
 have hkl := gotT_le hg
 rw [Array.length_toList, ByteArray.size_data] at hkl
 have HG := Lib.hid (fun w => gettext_is hs (by decide) hg w)
 obtain ⟨a, ha⟩ : ∃ a, s.extract k (k + n) = a := ⟨_, rfl⟩
 rw [ha] at ht HG
 obtain ⟨q, hq⟩ : ∃ q, k + n = q := ⟨_, rfl⟩
 rw [hq] at ht HG hkl
 clear hg ha hq
 by_cases hx : x = 0
 ·subst hx
  obtain ⟨r, hr⟩ : ∃ r, s.extract q s.size = r := ⟨_, rfl⟩
  obtain ⟨n', k', x', hg'⟩ : ∃ n k x, gotT r.data.toList 64 = (n, k, x) := ⟨_, _, _, rfl⟩
  have ht' := txt_is hg'
  have hkl' := gotT_le hg'
  rw [Array.length_toList, ByteArray.size_data] at hkl'
  have hrs : r.size = s.size - q := by rw [<- hr, ByteArray.size_extract]; omega
  have HG' := Lib.hid (fun w => gettext_is (s := r) (by omega) (by decide) hg' w)
  obtain ⟨b, hb⟩ : ∃ b, r.extract k' (k' + n') = b := ⟨_, rfl⟩
  rw [hb] at ht' HG'
  obtain ⟨q', hq'⟩ : ∃ q', k' + n' = q' := ⟨_, rfl⟩
  rw [hq'] at ht' HG' hkl'
  clear hg' hb hq'
  have hlast : (r.extract q' r.size).data.toList = (s.extract (q + q') s.size).data.toList := by
   rw [drop_list, <- hr, drop_list, drop_list, List.drop_drop]
  rw [hr] at ht
  rw [hlast] at ht'
  have hend := Lib.hid ht
  have hend' := Lib.hid ht'
  replace hr := Lib.hid hr
  clear ht ht' hlast
  by_cases hx' : x' = 0
  ·subst hx'
   have hb0 : Boxed w.heap.size (.string ⟨#[]⟩) (.string ⟨#[]⟩) (w.alloc (.cells #[.string ⟨#[]⟩, .string ⟨#[]⟩] 89 (0, 0))) := Boxed.of (cell_new w _)
   have hNw := Lib.hid ((Upon.refl (fun _ => False) w).alloc (.cells #[.string ⟨#[]⟩, .string ⟨#[]⟩] 89 (0, 0)))
   replace hb0 := Lib.hid hb0
   have hsum : wrap64 ((q : Int) + (q' : Int)) = ((q + q' : Nat) : Int) := by unfold wrap64; omega
   go_enter Tryz.func149, Tryz.ntmps149
   go_wp2_with fail
   refine (HG.out _).mono ?_
   rintro e w2 ⟨rfl, hb2⟩
   clear HG
   go_wp2_with fail
   rw [hr.out]
   refine (HG'.out _).mono ?_
   rintro e w3 ⟨rfl, hb3⟩
   clear HG'
   have hbx := boxed_below (boxed_below hb0.out hb2) hb3
   have c0 := hbx.c0
   have c1 := hbx.c1
   have f0 := hbx.f0
   have f1 := hbx.f1
   obtain ⟨s1, s2, s3, s4⟩ := Boxed.set hbx (.string a) (.string b)
   have hN : Hid (New0 w ((w3.setCell ⟨w.heap.size, 0, none⟩ (.string a)).setCell ⟨w.heap.size, 1, none⟩ (.string b))) := Lib.hid (Upon.setCell (p := ⟨w.heap.size, 1, none⟩) (Upon.setCell (p := ⟨w.heap.size, 0, none⟩) (hNw.out.trans (newOf (Below.trans hb2 (hb3.mono hb2.size)))) (.inr (Nat.le_refl _)) _) (.inr (Nat.le_refl _)) _)
   clear hbx hNw
   go_wp2_with fail
   refine bodyPost_ret (v := .tuple #[.agg #[.string a, .string b], .int .i64 ((q + q' : Nat) : Int), .int .i64 0]) (by simp [results, Tryz.results149, go_sem, s3, s4]) rfl ?_
   exact ⟨⟨a, b, q + q', 0, r.data.toList, rfl, .inr ⟨rfl, by omega, hend.out, hend'.out⟩⟩, hN.out⟩
  ·have dx : ((x' : Int) != 0) = true := by rw [bne_iff_ne]; omega
   have hb0 : Boxed w.heap.size (.string ⟨#[]⟩) (.string ⟨#[]⟩) (w.alloc (.cells #[.string ⟨#[]⟩, .string ⟨#[]⟩] 89 (0, 0))) := Boxed.of (cell_new w _)
   have hNw := Lib.hid ((Upon.refl (fun _ => False) w).alloc (.cells #[.string ⟨#[]⟩, .string ⟨#[]⟩] 89 (0, 0)))
   replace hb0 := Lib.hid hb0
   replace hx' := Lib.hid hx'
   go_enter Tryz.func149, Tryz.ntmps149
   go_wp2_with fail
   refine (HG.out _).mono ?_
   rintro e w2 ⟨rfl, hb2⟩
   clear HG
   go_wp2_with fail
   rw [hr.out]
   refine (HG'.out _).mono ?_
   rintro e w3 ⟨rfl, hb3⟩
   clear HG'
   have hbx := boxed_below (boxed_below hb0.out hb2) hb3
   have c0 := hbx.c0
   have c1 := hbx.c1
   have f0 := hbx.f0
   have f1 := hbx.f1
   obtain ⟨s1, s2, s3, s4⟩ := Boxed.set hbx (.string ⟨#[]⟩) (.string ⟨#[]⟩)
   have hN : Hid (New0 w ((w3.setCell ⟨w.heap.size, 0, none⟩ (.string ⟨#[]⟩)).setCell ⟨w.heap.size, 1, none⟩ (.string ⟨#[]⟩))) := Lib.hid (Upon.setCell (p := ⟨w.heap.size, 1, none⟩) (Upon.setCell (p := ⟨w.heap.size, 0, none⟩) (hNw.out.trans (newOf (Below.trans hb2 (hb3.mono hb2.size)))) (.inr (Nat.le_refl _)) _) (.inr (Nat.le_refl _)) _)
   clear hbx hNw
   go_wp2_with fail
   refine bodyPost_ret (v := .tuple #[.agg #[.string ⟨#[]⟩, .string ⟨#[]⟩], .int .i64 0, .int .i64 (x' : Int)]) (by simp [results, Tryz.results149, go_sem, s3, s4]) rfl ?_
   exact ⟨⟨⟨#[]⟩, ⟨#[]⟩, 0, x', r.data.toList, rfl, .inl ⟨hx'.out, .inr ⟨a, b, _, hend.out, hend'.out⟩⟩⟩, hN.out⟩
 ·have dx : ((x : Int) != 0) = true := by rw [bne_iff_ne]; omega
  have hb0 : Boxed w.heap.size (.string ⟨#[]⟩) (.string ⟨#[]⟩) (w.alloc (.cells #[.string ⟨#[]⟩, .string ⟨#[]⟩] 89 (0, 0))) := Boxed.of (cell_new w _)
  have hNw := Lib.hid ((Upon.refl (fun _ => False) w).alloc (.cells #[.string ⟨#[]⟩, .string ⟨#[]⟩] 89 (0, 0)))
  replace hb0 := Lib.hid hb0
  replace hx := Lib.hid hx
  replace ht := Lib.hid ht
  go_enter Tryz.func149, Tryz.ntmps149
  go_wp2_with fail
  refine (HG.out _).mono ?_
  rintro e w2 ⟨rfl, hb2⟩
  clear HG
  have hbx := boxed_below hb0.out hb2
  have c0 := hbx.c0
  have c1 := hbx.c1
  have f0 := hbx.f0
  have f1 := hbx.f1
  obtain ⟨s1, s2, s3, s4⟩ := Boxed.set hbx (.string ⟨#[]⟩) (.string ⟨#[]⟩)
  have hN : Hid (New0 w ((w2.setCell ⟨w.heap.size, 0, none⟩ (.string ⟨#[]⟩)).setCell ⟨w.heap.size, 1, none⟩ (.string ⟨#[]⟩))) := Lib.hid (Upon.setCell (p := ⟨w.heap.size, 1, none⟩) (Upon.setCell (p := ⟨w.heap.size, 0, none⟩) (hNw.out.trans (newOf hb2)) (.inr (Nat.le_refl _)) _) (.inr (Nat.le_refl _)) _)
  clear hbx hNw
  go_wp2_with fail
  refine bodyPost_ret (v := .tuple #[.agg #[.string ⟨#[]⟩, .string ⟨#[]⟩], .int .i64 0, .int .i64 (x : Int)]) (by simp [results, Tryz.results149, go_sem, s3, s4]) rfl ?_
  exact ⟨⟨⟨#[]⟩, ⟨#[]⟩, 0, x, _, rfl, .inl ⟨hx.out, .inl ⟨a, ht.out⟩⟩⟩, hN.out⟩
end Lb
end
section
open Go.RowKit Go.Sort
namespace Lb
open Bit Dsk Ob Dig
theorem getpair_at (s : ByteArray) (p : Nat) (hp : p <= s.size) (hs : s.size <= 4611686018427387904) (w : World) :
  Calls Tryz.prog 149 #[.string (s.extract p s.size)] w fun e w' => (∃ (a b : ByteArray) (k x : Nat) (r1 : List UInt8), e = .returned (.tuple #[.agg #[.string a, .string b], .int .i64 (k : Int), .int .i64 (x : Int)]) /\
   ((x ≠ 0 /\ ((∃ a', txt 32 (s.data.toList.drop p) = (a', r1, x)) \/ ∃ a' b' r2, txt 32 (s.data.toList.drop p) = (a', r1, 0) /\ txt 64 r1 = (b', r2, x))) \/ (x = 0 /\ p + k <= s.size /\ txt 32 (s.data.toList.drop p) = (a, r1, 0) /\ txt 64 r1 = (b, s.data.toList.drop (p + k), 0)))) /\ New0 w w' := by
 have hrs : (s.extract p s.size).size = s.size - p := by rw [ByteArray.size_extract]; omega
 refine (getpair_any (s.extract p s.size) (by omega) w).mono ?_
 rintro e w' ⟨⟨a, b, k, x, r1, he, h⟩, hu⟩
 rw [drop_list] at h
 refine ⟨⟨a, b, k, x, r1, he, ?_⟩, hu⟩
 rcases h with h | ⟨h1, h2, h3, h4⟩
 ·exact .inl h
 ·refine .inr ⟨h1, by omega, h3, ?_⟩
  rw [h4, drop_list, drop_list, List.drop_drop]
theorem txt_small {m : Int} {r r1 : List UInt8} {a : ByteArray} (h : txt m r = (a, r1, 0)) (hr : r.length <= 9223372036854775807) : a.size <= 9223372036854775807 := by
 have h1 : (txt m r).1 = a := by rw [h]
 have : a.size <= r.length := by
  rw [<- h1]
  show ((r.drop (gotT r m).2.1).take (gotT r m).1).toArray.size <= _
  rw [List.size_toArray, List.length_take, List.length_drop]; omega
 omega
theorem txt_left {m : Int} {r r1 : List UInt8} {a : ByteArray} {x : Nat} (h : txt m r = (a, r1, x)) : r1.length <= r.length := by
 have h1 : (txt m r).2.1 = r1 := by rw [h]
 rw [<- h1]
 show (r.drop _).length <= _
 rw [List.length_drop]; omega
def Own1 (w0 w : World) (u : Value) (l : List Pr) : Prop := Mine w u l /\ (∀ g, u.ownBlock = some g -> w0.heap.size <= g) /\ New0 w0 w
theorem Own1.step {w0 w w' : World} {u : Value} {l : List Pr} (h : Own1 w0 w u l) (hu : New0 w w') : Own1 w0 w' u l := ⟨h.1.new hu, h.2.1, h.2.2.trans hu⟩
theorem Own1.app {w0 w w' : World} {u u' : Value} {l m : List Pr} (h : Own1 w0 w u l) (hown : Mine w' u' m) (hg : w.grownBy w' u.ownBlock) (hb : u'.ownBlock = u.ownBlock \/ u'.ownBlock = some w.heap.size) : Own1 w0 w' u' m :=
 ⟨hown, fun g hk => by
  rw [hk] at hb
  rcases hb with hb | hb
  ·exact h.2.1 g hb.symm
  ·have : g = w.heap.size := by simpa using hb
   have := h.2.2.size
   omega, Rw.grown_new (v' := u') hg (fun g hk => h.2.1 g hk) w0 (Nat.le_refl _) h.2.2⟩
theorem view_two (w : World) (a b : ByteArray) : View ((w.alloc (.cells #[.string a, .string b] 89 (0, 0))).alloc (.cells #[.string a, .string b] 89 (0, 0))) All (.slice (some ⟨w.heap.size + 1, 0, none⟩) 1 1) [(a, b)] := by
 have h := view_one (cell_new (w.alloc (.cells #[.string a, .string b] 89 (0, 0))) (.cells #[.string a, .string b] 89 (0, 0)))
 have e : (w.alloc (.cells #[.string a, .string b] 89 (0, 0))).heap.size = w.heap.size + 1 := by simp
 rw [e] at h
 exact h
def DecE (w : World) (sl : List UInt8) (e : Ending) (w' : World) : Prop := ∃ v, e = .returned (.tuple #[v, .int .i64 ((dec sl).2 : Int)]) /\ View w' (Nw w) v (dec sl).1 /\ New0 w w'
theorem DecE.no {w w' : World} {sl : List UInt8} {x : Nat} {z : Int} (h : dec sl = ([], x)) (hz : z = x) (hu : New0 w w') : DecE w sl (.returned (.tuple #[.slice none 0 0, .int .i64 z])) w' := by
 subst hz
 unfold DecE
 rw [h]
 exact ⟨_, rfl, Rw.View.noth _ _ _, hu⟩
theorem DecE.yes {w w' : World} {sl : List UInt8} {l : List Pr} {v : Value} (h : dec sl = (l, 0)) (hu : Own1 w w' v l) : DecE w sl (.returned (.tuple #[v, .int .i64 0])) w' := by
 unfold DecE
 rw [h]
 exact ⟨v, rfl, hu.1.view.mono fun b _ hb => hu.2.1 b hb, hu.2.2⟩
set_option maxHeartbeats 6400000 in
theorem decode_e (w : World) (s : ByteArray) (hs : s.size <= 140737488355328) :
  Calls Tryz.prog 101 #[.string s] w fun e w' => DecE w s.data.toList e w' := by
 obtain ⟨n, k, x, hg⟩ : ∃ n k x, gotN s.data.toList = (n, k, x) := ⟨_, _, _, rfl⟩
 have hks : k <= s.size := by
  have := (gotN_lt s.data.toList).2.2.1
  rw [hg] at this
  simpa using this
 have hn64 : n < 18446744073709551616 := by
  have := (gotN_lt s.data.toList).1
  rw [hg] at this
  exact this
 have HG : Hid (∀ w, Calls Tryz.prog 100 #[.string s] w fun e w' => e = .returned (.tuple #[.int .u64 (n : Int), .int .i64 (k : Int), .int .i64 (x : Int)]) /\ Below w.heap.size w w') := Lib.hid fun w => by
  have := Dig.get_any s (by omega) w
  rw [hg] at this
  exact this
 have HP := Lib.hid (fun p hp w => getpair_at s p hp (by omega) w)
 obtain ⟨sl, hsl⟩ : ∃ sl, s.data.toList = sl := ⟨_, rfl⟩
 have hsn : sl.length = s.size := by rw [<- hsl]; simp
 rw [hsl] at hg HP ⊢
 clear hsl
 by_cases hx : x = 0
 ·subst hx
  by_cases hn : n < 1 \/ 8 < n
  ·have HK := Lib.hid (fun w => iscount_nat n w (b := false) (by simp; omega))
   have hD := Lib.hid (dec_few hg hn)
   clear hg hn HP
   go_enter Tryz.func101, Tryz.ntmps101
   go_wp2_with fail
   refine (HG.out _).mono ?_
   rintro e w2 ⟨rfl, hb2⟩
   have hu2 := Lib.hid (newOf hb2)
   clear HG hb2
   go_wp2_with fail
   refine (HK.out _).mono ?_
   rintro e w3 ⟨rfl, rfl⟩
   clear HK
   go_wp2_with fail
   go_ret2
   exact DecE.no hD.out rfl hu2.out
  ·have HK := Lib.hid (fun w => iscount_nat n w (b := true) (by simp; omega))
   have hn1 : 1 <= n := by omega
   have hn8 : n <= 8 := by omega
   have hbad := Lib.hid (fun e h => dec_bad (e := e) hg hn h)
   have hmore := Lib.hid (fun l r h => dec_more (l := l) (r := r) hg hn h)
   have hlab := Lib.hid (fun l h => dec_label (l := l) hg hn h)
   have hgood := Lib.hid (fun l h => dec_ok (l := l) hg hn h)
   obtain ⟨i0, z0, hi, hz0, hz1, hz2, -⟩ := typPr.info
   replace hz1 : i0.size = 2 := hz1
   clear hg hn
   go_enter Tryz.func101, Tryz.ntmps101
   go_wp2_with fail
   refine (HG.out _).mono ?_
   rintro e w2 ⟨rfl, hb2⟩
   have hu2 := Lib.hid (newOf hb2)
   clear HG hb2
   go_wp2_with fail
   refine (HK.out _).mono ?_
   rintro e w3 ⟨rfl, rfl⟩
   clear HK
   go_wp2_with (refine wpList_make_own _ rfl _ _ _ rfl 0 89 i0 _ 2 Tryz.underlying60 hi hz0 hz1 _ _ _ n rfl rfl rfl ?mk1 ?mk2 (Nat.zero_le _) ?_)
   case mk1 => rw [hz2]; omega
   case mk2 => unfold maxLen; omega
   intro w4 hrow hg4
   have hM : Hid (Own1 w w4 (.slice (some ⟨w3.heap.size, 0, none⟩) 0 n) []) := Lib.hid ⟨hrow, fun g hk => by
    have hk' : w3.heap.size = g := by simpa [Value.ownBlock] using hk
    have := hu2.out.size
    omega, Upon.grown hu2.out hg4 (fun g hk => by cases hk)⟩
   clear hrow hg4 hi hz0 hz1 hz2 hu2
   go_wp2_with fail
   go_loopw [5, 7, 27] (fun pv u ov wr => ∃ (j p : Nat) (l : List Pr), ov = .int .u64 (j : Int) /\ pv = .int .i64 (p : Int) /\ j <= n /\ p <= s.size /\ Hid (l.length = j) /\ Hid (Sml l) /\ Hid (Read n (sl.drop k) j l (sl.drop p)) /\ Hid (Own1 w wr u l)) (fun _ _ ov _ => n - (intOf ov).toNat)
   case atStart => exact ⟨0, k, [], rfl, rfl, Nat.zero_le _, hks, Lib.hid rfl, Lib.hid (fun p hp => by simp at hp), Lib.hid (Read.start _ _), hM⟩
   case round =>
    clear hM
    obtain ⟨j, p, l, rfl, rfl, hj, hp, hlj, hsm, hrd, ho⟩ := hrel
    by_cases hlt : j < n
    ·have HP1 := Lib.hid (fun w => HP.out p hp w)
     clear HP
     have hfew : l.length <= 8 := by have := hlj.out; omega
     obtain ⟨A7, c7, hu7, -, -⟩ := Rw.View.shape ho.out.1.view
     subst hu7
     go_wp2_with fail
     refine (HP1.out _).mono ?_
     rintro e w5 ⟨⟨a, b, q, x, r1, rfl, hcase⟩, hu5⟩
     have ho5 := Lib.hid ((ho.out.step hu5).step ((Upon.refl _ w5).alloc (.cells #[.string a, .string b] 89 (0, 0))))
     clear HP1 ho
     by_cases hx0 : x = 0
     ·subst hx0
      obtain ⟨hq, t1, t2⟩ : p + q <= s.size /\ txt 32 (sl.drop p) = (a, r1, 0) /\ txt 64 r1 = (b, sl.drop (p + q), 0) := by
       rcases hcase with ⟨h, -⟩ | ⟨-, h⟩
       ·exact absurd rfl h
       ·exact h
      have hrd' := Lib.hid (hrd.out.step hlt t1 t2)
      have hlen1 := txt_left t1
      have hld : (sl.drop p).length <= sl.length := by rw [List.length_drop]; omega
      have hsm' := Lib.hid (hsm.out.snoc (txt_small t1 (by omega)) (txt_small t2 (by omega)))
      have hsum : wrap64 ((p : Int) + (q : Int)) = ((p + q : Nat) : Int) := by unfold wrap64; omega
      clear hcase t1 t2 hrd hsm hlen1 hld hbad hmore hlab hgood
      have hM := Lib.hid (ho5.out.1.new ((Upon.refl _ _).alloc (.cells #[.string a, .string b] 89 (0, 0))))
      have hO := Lib.hid (ho5.out.step ((Upon.refl _ _).alloc (.cells #[.string a, .string b] 89 (0, 0))))
      clear ho5
      have hX := Lib.hid (view_two w5 a b)
      go_wp2_with (at_builtin; refine Rw.wpList_append typPr rfl _ _ rfl _ _ l [(a, b)] All rfl rfl hM.out hX.out (by rw [List.length_singleton]; omega) (by rw [List.length_singleton]; omega) ?_)
      intro v' w6 hown hgr hbl
      have h6 := Lib.hid (hO.out.app hown hgr (hbl.imp id fun h => h.trans (by simp)))
      clear hM hO hX hown hgr hbl
      go_wp2_with fail
      go_roundw
      case rel => exact ⟨j + 1, p + q, _, by go_num, rfl, hlt, hq, Lib.hid (by rw [List.length_append, hlj.out]; rfl), hsm', hrd', h6⟩
      case measure => simp [intOf]; omega
     ·have hD : Hid (dec sl = ([], x)) := Lib.hid (hbad.out x (by
       rcases hcase with ⟨h, h2⟩ | ⟨h, -⟩
       ·rcases h2 with ⟨a', h2⟩ | ⟨a', b', r2, h2, h3⟩
        ·exact hrd.out.bad1 hlt h2 h
        ·exact hrd.out.bad2 hlt h2 h3 h
       ·exact absurd h hx0) hx0)
      have dx : ((x : Int) != 0) = true := by rw [bne_iff_ne]; omega
      clear hcase hrd hsm hbad hmore hlab hgood hx0
      go_wp2_with fail
      go_ret2
      exact DecE.no hD.out rfl ho5.out.2.2
    ·have hps := Lib.hid (hrd.out.last hlt)
     obtain ⟨A7, c7, hu7, -, -⟩ := Rw.View.shape ho.out.1.view
     subst hu7
     clear HP hrd
     by_cases hmr : p < s.size
     ·have hD := Lib.hid (hmore.out _ _ hps.out (fun e => by
       have := congrArg List.length e
       rw [List.length_drop, List.length_nil] at this
       omega))
      clear hps hsm hbad hmore hlab hgood
      go_wp2_with fail
      go_ret2
      exact DecE.no hD.out rfl ho.out.2.2
     ·have hnil : sl.drop p = [] := List.drop_eq_nil_of_le (by omega)
      replace hps : Hid (pairs n (sl.drop k) = (l, [], 0)) := Lib.hid (by rw [hps.out, hnil])
      replace hnil := Lib.hid hnil
      by_cases hok : Ok l
      ·have HC := Lib.hid (check_ok _ _ _ l ho.out.1.view hsm.out hok)
       have hD := Lib.hid (hgood.out l hps.out hok)
       clear hps hsm hbad hmore hlab hgood hok
       go_wp2_with fail
       refine HC.out.mono ?_
       rintro e w7 ⟨rfl, hu7⟩
       have h7 := Lib.hid (ho.out.step hu7)
       clear HC ho hu7
       go_wp2_with fail
       go_ret2
       exact DecE.yes hD.out h7.out
      ·have HC := Lib.hid (check_no _ _ _ l ho.out.1.view hsm.out hok)
       have hD := Lib.hid (hlab.out l hps.out hok)
       clear hps hsm hbad hmore hlab hgood hok
       go_wp2_with fail
       refine HC.out.mono ?_
       rintro e w7 ⟨rfl, hu7⟩
       have h7 := Lib.hid (ho.out.step hu7)
       clear HC ho hu7
       go_wp2_with fail
       go_ret2
       exact DecE.no hD.out rfl h7.out.2.2
 ·have dx : ((x : Int) != 0) = true := by rw [bne_iff_ne]; omega
  have hD := Lib.hid (dec_num hg hx)
  clear hg HP hx
  go_enter Tryz.func101, Tryz.ntmps101
  go_wp2_with fail
  refine (HG.out _).mono ?_
  rintro e w2 ⟨rfl, hb2⟩
  have hu2 := Lib.hid (newOf hb2)
  clear HG hb2
  go_wp2_with fail
  go_ret2
  exact DecE.no hD.out rfl hu2.out
end Lb
end
end
end Go.Proofs.YtgmnhodajngchaaGreatDoor
