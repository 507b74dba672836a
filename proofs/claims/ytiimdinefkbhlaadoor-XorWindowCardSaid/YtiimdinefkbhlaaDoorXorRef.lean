/- The document's own coder of patterns (layer 7): lead, tail. -/
import Derived.Test.YtiimdinefkbhlaaDoorXorPure
import Derived.Test.YtiimdinefkbhlaaDoorObj2
namespace Go.Proofs.YtiimdinefkbhlaaDoor
open Go.RowKit
namespace Xr
open Bit Dsk Ob
set_option linter.unusedVariables false

theorem int_div_pow (d k : Nat) : ((d : Int) / 2 ^ k) = ((d / 2 ^ k : Nat) : Int) := by rw [Int.natCast_ediv, Int.natCast_pow]; rfl
theorem lead_is {d n : Nat} (hn : n ≤ 31) (h : ∀ i, i < n → d / 2 ^ (63 - i) = 0) (hs : n = 31 ∨ d / 2 ^ (63 - n) ≠ 0) : Xr.lead d = n :=
  upTo_is _ 31 n hn (fun i hi => by simpa using h i hi) (fun h2 => by rcases hs with h3 | h3 <;> simp_all)
theorem tail_is {d n : Nat} (hn : n ≤ 63) (h : ∀ i, i < n → d / 2 ^ i % 2 = 0) (hs : n = 63 ∨ d / 2 ^ n % 2 ≠ 0) : Xr.tail d = n :=
  upTo_is _ 63 n hn (fun i hi => by simpa using h i hi) (fun h2 => by rcases hs with h3 | h3 <;> simp_all)
set_option maxHeartbeats 800000 in
theorem lead_any (d : Nat) (hd : d < 2 ^ 64) (w : World) : Calls Tryd.prog 23 #[.int .u64 (d : Int)] w fun e w' => e = .returned (.int .i64 (Xr.lead d : Int)) ∧ w = w' := by
  have hd2 : d < 18446744073709551616 := by simpa using hd
  replace hd := Lib.hid hd
  go_enter Tryd.func23, Tryd.ntmps23
  go_wp2_with fail
  go_loopw [3] (fun i wr => ∃ n : Nat, n ≤ 31 ∧ i = .int .i64 (n : Int) ∧ (∀ i, i < n → d / 2 ^ (63 - i) = 0) ∧ w = wr) (fun i _ => 31 - (intOf i).toNat)
  case atStart => exact ⟨0, Nat.zero_le _, rfl, fun i hi => absurd hi (Nat.not_lt_zero _), rfl⟩
  case round =>
    obtain ⟨n, hn, rfl, hall, rfl⟩ := hrel
    replace hall := Lib.hid hall
    by_cases hlt : n < 31
    · have hs : IntKind.i64.wrap (63 - (n : Int)) = ((63 - n : Nat) : Int) := by rw [IntWalk.i64_in _ (by omega)]; omega
      have hdiv := int_div_pow d (63 - n)
      by_cases hz : d / 2 ^ (63 - n) = 0
      · have hb : ((d : Int) / 2 ^ (63 - n) == 0) = true := by rw [hdiv, hz]; rfl
        have hnext : Hid (∀ i, i < n + 1 → d / 2 ^ (63 - i) = 0) := Lib.hid fun i hi => by
          by_cases e : i = n
          · rw [e]; exact hz
          · exact hall.out i (by omega)
        clear hdiv hz
        go_wp2_with fail
        go_roundw
        case rel => exact ⟨n + 1, by omega, by go_num, hnext.out, trivial⟩
        case measure => simp [intOf]; omega
      · have hb : ((d : Int) / 2 ^ (63 - n) == 0) = false := by
          rw [hdiv, beq_eq_false_iff_ne]
          exact fun e => hz (by exact_mod_cast e)
        have he : Hid (Xr.lead d = n) := Lib.hid (lead_is (by omega) hall.out (.inr hz))
        clear hdiv hz
        go_wp2_with fail
        go_ret
        exact ⟨by rw [he.out]; rfl, rfl⟩
    · obtain rfl : n = 31 := by omega
      have he : Hid (Xr.lead d = 31) := Lib.hid (lead_is (Nat.le_refl _) hall.out (.inl rfl))
      go_wp2_with fail
      go_ret
      exact ⟨by rw [he.out]; rfl, rfl⟩
set_option maxHeartbeats 800000 in
theorem tail_any (d : Nat) (hd : d < 18446744073709551616) (w : World) : Calls Tryd.prog 24 #[.int .u64 (d : Int)] w fun e w' => e = .returned (.int .i64 (Xr.tail d : Int)) ∧ w = w' := by
  go_enter Tryd.func24, Tryd.ntmps24
  go_wp2_with fail
  go_loopw [0, 3] (fun x i wr => ∃ n q : Nat, n ≤ 63 ∧ i = .int .i64 (n : Int) ∧ q = d / 2 ^ n ∧ q < 18446744073709551616 ∧ x = .int .u64 (q : Int) ∧ (∀ i, i < n → d / 2 ^ i % 2 = 0) ∧ w = wr) (fun _ i _ => 63 - (intOf i).toNat)
  case atStart => exact ⟨0, d, Nat.zero_le _, rfl, by simp, hd, rfl, fun i hi => absurd hi (Nat.not_lt_zero _), rfl⟩
  case round =>
    obtain ⟨n, q, hn, rfl, hq, hql, rfl, hall, rfl⟩ := hrel
    replace hall := Lib.hid hall
    replace hq := Lib.hid hq
    by_cases hz : q % 2 = 0
    · have hb : (((q : Int) % 2) == 0) = true := by rw [beq_iff_eq]; omega
      by_cases hlt : n < 63
      · have hnext : Hid (∀ i, i < n + 1 → d / 2 ^ i % 2 = 0) := Lib.hid fun i hi => by
          by_cases e : i = n
          · rw [e, ← hq.out]; exact hz
          · exact hall.out i (by omega)
        have hnq : Hid (q / 2 = d / 2 ^ (n + 1)) := Lib.hid (by rw [hq.out, Nat.div_div_eq_div_mul, Nat.pow_succ])
        have hql2 : Hid (q / 2 < 18446744073709551616) := Lib.hid (by omega)
        go_wp2_with fail
        go_roundw
        case rel => exact ⟨n + 1, q / 2, by omega, by go_num, hnq.out, hql2.out, by go_num, hnext.out, trivial⟩
        case measure => simp [intOf]; omega
      · obtain rfl : n = 63 := by omega
        have he : Hid (Xr.tail d = 63) := Lib.hid (tail_is (Nat.le_refl _) hall.out (.inl rfl))
        go_wp2_with fail
        go_ret
        exact ⟨by rw [he.out]; rfl, rfl⟩
    · have hb : (((q : Int) % 2) == 0) = false := by rw [beq_eq_false_iff_ne]; omega
      have he : Hid (Xr.tail d = n) := Lib.hid (tail_is hn hall.out (.inr (by rw [← hq.out]; exact hz)))
      go_wp2_with fail
      go_ret
      exact ⟨by rw [he.out]; rfl, rfl⟩

/-! ### the coder in memory -/
def cCells (c : Cd) : Array Value := #[.bool c.begun, .int .u64 (c.v : Int), .bool c.win, .int .i64 (c.lead : Int), .int .i64 (c.tail : Int)]
/-- The document's coder at block q. -/
def IsRC (q : Nat) (c : Cd) : Ob.Rel := fun w S => w.heap[q]? = some (.cells (cCells c) 28 (0, 0)) ∧ ∀ x, S x ↔ x = q
theorem objRC (q : Nat) (c : Cd) : Thing (IsRC q c) := ⟨fun w w' S h hk _ => ⟨(hk q ((h.2 q).2 rfl)).trans h.1, h.2⟩, fun w S h x hx => by rw [(h.2 x).1 hx]; exact (Array.getElem?_eq_some_iff.1 h.1).1⟩
theorem rc5 {w : World} {q : Nat} {c : Cd} (h : w.heap[q]? = some (.cells (cCells c) 28 (0, 0))) :
    w.cell? ⟨q, 0, none⟩ = some (.bool c.begun) ∧ w.cell? ⟨q, 1, none⟩ = some (.int .u64 (c.v : Int)) ∧ w.cell? ⟨q, 2, none⟩ = some (.bool c.win) ∧ w.cell? ⟨q, 3, none⟩ = some (.int .i64 (c.lead : Int)) ∧ w.cell? ⟨q, 4, none⟩ = some (.int .i64 (c.tail : Int)) ∧ ∀ o, w.frozen? ⟨q, o, none⟩ = false := by
  refine ⟨?_, ?_, ?_, ?_, ?_, fun o => Lib.frozen_of_heap h o⟩ <;> (rw [Lib.cell_of_heap h]; rfl)
/-- A cell of it is written. -/
theorem rcSet {w : World} {A : Nat → Prop} {q o : Nat} {c c' : Cd} {v : Value} (h : IsRC q c w A) (he : (cCells c).setIfInBounds o v = cCells c') : ObjStep (IsRC q c') A w (w.setCell ⟨q, o, none⟩ v) :=
  stepCell ((h.2 q).2 rfl) ⟨by rw [← he]; simp [World.setCell, Array.getElem?_modify, h.1], h.2⟩
end Xr
end Go.Proofs.YtiimdinefkbhlaaDoor
