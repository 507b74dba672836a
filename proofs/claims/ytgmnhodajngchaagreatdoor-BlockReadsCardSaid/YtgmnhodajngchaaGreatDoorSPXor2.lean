/- Parts: PXor2. -/
import Derived.Test.YtgmnhodajngchaaGreatDoorSPXor1
import Derived.Test.YtgmnhodajngchaaGreatDoorSXorLen
import Derived.Lib.BitFns
import Derived.Lib.TrailingZeros
import Derived.Laws.Bits64b
import Derived.Test.YtgmnhodajngchaaGreatDoorSPBit3
import Derived.Lib.QuietBelow
import Derived.StillTailTactics
import Derived.Test.YtgmnhodajngchaaGreatDoorSPObj
import Derived.ProofKit
import Derived.LaidMore
import Derived.Lib.LaidTab
import Derived.Stop.Joined
set_option maxRecDepth 100000
set_option linter.unusedVariables false
namespace Go.Proofs.YtgmnhodajngchaaGreatDoor
section
section
open Go.RowKit
namespace Xr
open Bit Dsk Ob
theorem lt_bitLen : ∀ (f x : Nat), x < 2 ^ f -> x < 2 ^ Lib.bitLenAux f x
 | 0, x, h => by simpa [Lib.bitLenAux] using h
 | f + 1, x, h => by
  unfold Lib.bitLenAux
  split
  ·rename_i h0; rw [h0]; decide
  ·have h2 := lt_bitLen f (x / 2) (by rw [Nat.pow_succ] at h; omega)
   rw [Nat.add_comm, Nat.pow_succ]
   omega
theorem lead_len {d : Nat} (hd : d < 2 ^ 64) : lead d = min 31 (64 - Lib.bitLen d) := by
 have h1 := lt_bitLen 64 d hd
 unfold lead
 refine upTo_is _ 31 _ (by omega) (fun i hi => ?_) (fun hk => ?_)
 ·have h2 : 2 ^ Lib.bitLen d <= 2 ^ (63 - i) := Nat.pow_le_pow_right (by decide) (by omega)
  have h3 : d < 2 ^ (63 - i) := Nat.lt_of_lt_of_le h1 h2
  simp [Nat.div_eq_of_lt h3]
 ·have e : min 31 (64 - Lib.bitLen d) = 64 - Lib.bitLen d := by omega
  rw [e]
  have h4 : ¬ d < 2 ^ (63 - (64 - Lib.bitLen d)) := fun h5 => by
   have := Lib.bitLen_le d _ (by omega) h5
   omega
  have h6 : ¬ d / 2 ^ (63 - (64 - Lib.bitLen d)) = 0 := fun h7 => h4 ((Nat.div_eq_zero_iff_lt (Nat.two_pow_pos _)).1 h7)
  simpa using h6
theorem tail_ctz {d : Nat} (hd : d < 2 ^ 64) (h0 : d ≠ 0) : tail d = Lib.ctz 64 d := by
 obtain ⟨m, h1, h2⟩ := Lib.ctzFrom_spec 64 d (by omega) hd
 have e : Lib.ctz 64 d = Lib.ctzFrom 64 d := by unfold Lib.ctz; rw [if_neg h0]
 rw [e]
 generalize Lib.ctzFrom 64 d = c at *
 unfold tail
 refine upTo_is _ 63 _ (by omega) (fun i hi => ?_) (fun hk => ?_)
 ·have e2 : d = 2 ^ i * (2 * (2 ^ (c - i - 1) * (2 * m + 1))) := by
   rw [h1, <- Nat.mul_assoc 2, <- Nat.pow_succ', <- Nat.mul_assoc, <- Nat.pow_add]
   congr 2; omega
  rw [e2, Nat.mul_div_cancel_left _ (Nat.two_pow_pos i)]
  simp
 ·rw [h1, Nat.mul_div_cancel_left _ (Nat.two_pow_pos c)]
  simp
def Tab (w : World) : Prop := ∀ j, j < Lib.deBruijn64tab.length -> w.cell? ⟨3, j, none⟩ = some (.int .u8 (Lib.deBruijn64tab.getD j 0))
theorem lead64_any (x : Nat) (hx : x < 18446744073709551616) (w : World) : Calls Tryz.prog 252 #[.int .u64 (x : Int)] w fun e w' => e = .returned (.int .i64 ((64 - Lib.bitLen x : Nat) : Int)) /\ w' = w := by
 have h := Lib.hid (len64_any (x : Int) (by omega) (by omega) w)
 have l := Lib.bitLen_le x 64 (by omega) hx
 go_enter Tryz.func252, Tryz.ntmps252
 go_wp2_with fail
 refine h.out.mono ?_
 rintro e w' ⟨rfl, rfl⟩
 clear h
 rw [Int.toNat_natCast]
 go_wp2_with fail
 go_ret
 refine ⟨congrArg Ending.returned (congrArg (Value.int IntKind.i64) ?_), rfl⟩
 omega
theorem tz_key {x k : Nat} (hx : x < 18446744073709551616) (h : x &&& (18446744073709551616 - x) = 2 ^ k) :
  IntKind.u64.wrap (bits BinOp.and IntKind.u64 (x : Int) (IntKind.u64.wrap (-(x : Int))) * 285870213051353865) / 288230376151711744 = ((2 ^ k * 285870213051353865 % 18446744073709551616 / 288230376151711744 : Nat) : Int) := by
 have h0 : x ≠ 0 := fun e => by
  rw [e] at h
  have := Nat.two_pow_pos k
  simp at h
  omega
 have e1 : IntKind.u64.wrap (-(x : Int)) = ((18446744073709551616 - x : Nat) : Int) := by rw [IntKind.wrap_u64]; omega
 rw [e1, bits_and_u64_nat x _ hx (by omega), h, IntKind.wrap_u64]
 omega
set_option maxHeartbeats 1600000 in
theorem tail64_core (x k idx : Nat) (w : World) (hz : ((x : Int) == 0) = false) (key : IntKind.u64.wrap (bits BinOp.and IntKind.u64 (x : Int) (IntKind.u64.wrap (-(x : Int))) * 285870213051353865) / 288230376151711744 = (idx : Int))
  (hi : idx < 64) (hk : k < 64) (hcell : w.cell? ⟨3, idx, none⟩ = some (.int .u8 k)) : Calls Tryz.prog 253 #[.int .u64 (x : Int)] w fun e w' => e = .returned (.int .i64 k) /\ w' = w := by
 go_enter Tryz.func253, Tryz.ntmps253
 go_wp2_with (simp only [key])
 go_ret
 exact ⟨rfl, rfl⟩
theorem tail64_any (x : Nat) (hx : x < 18446744073709551616) (h0 : x ≠ 0) (w : World) (hT : Tab w) : Calls Tryz.prog 253 #[.int .u64 (x : Int)] w fun e w' => e = .returned (.int .i64 (tail x : Int)) /\ w' = w := by
 obtain ⟨hlow, hk⟩ := Lib.lowest_bit 64 x h0 hx
 obtain ⟨hi, htab⟩ := Lib.deBruijn64_at _ hk
 have hcell := hT _ hi
 rw [htab] at hcell
 rw [tail_ctz hx h0]
 exact tail64_core x _ _ w (by rw [beq_eq_false_iff_ne]; omega) (tz_key hx hlow) hi hk hcell
end Xr
end
section
open Go.RowKit Go.Sort
namespace Xr
open Bit Dsk Ob
abbrev win (l t : Nat) : Value := .agg #[.int .i64 (l : Int), .int .i64 (t : Int)]
theorem Tab.upon {S : Nat -> Prop} {w w' : World} (h : Tab w) (hu : Upon S w w') (hS : ¬ S 3) : Tab w' := fun j hj => by
 have hc := h j hj
 have hb := World.block_lt_of_cell? w _ hc
 rw [<- hc, World.cell?, World.cell?, hu.block _ hb hS]
set_option maxHeartbeats 1600000 in
theorem windowOf_any (d : Nat) (hd : d < 18446744073709551616) (h0 : d ≠ 0) (w : World) (hT : Tab w) : Calls Tryz.prog 234 #[.int .u64 (d : Int)] w fun e w' => e = .returned (win (lead d) (tail d)) /\ New0 w w' := by
 have h1 := Lib.hid (fun w => lead64_any d hd w)
 have hu : New0 w (w.alloc (.cells #[.int .i64 0, .int .i64 0] 304 (0, 0))) := (Upon.refl _ w).alloc _
 have h2 := Lib.hid (tail64_any d hd h0 (w.alloc (.cells #[.int .i64 0, .int .i64 0] 304 (0, 0))) (hT.upon hu fun f => f))
 have hl := lead_len hd
 have hm : min ((64 - Lib.bitLen d : Nat) : Int) 31 = (lead d : Int) := by omega
 have hend : Hid (New0 w (w.alloc (.cells #[.int .i64 (lead d : Int), .int .i64 (tail d : Int)] 304 (0, 0)))) := Lib.hid ((Upon.refl _ w).alloc _)
 clear hT hl hu
 go_enter Tryz.func234, Tryz.ntmps234
 go_wp2_with fail
 refine (h1.out _).mono ?_
 rintro e w' ⟨rfl, rfl⟩
 go_wp2_with fail
 refine h2.out.mono ?_
 rintro e w' ⟨rfl, rfl⟩
 clear h1 h2
 go_wp2_with fail
 refine bodyPost_ret (v := win (lead d) (tail d)) (by simp [results, Tryz.results234, go_sem]) rfl ⟨rfl, hend.out⟩
set_option maxHeartbeats 1600000 in
theorem size_any (l t : Nat) (h : l + t <= 64) (w : World) : Calls Tryz.prog 236 #[win l t] w fun e w' => e = .returned (.int .i64 ((64 - l - t : Nat) : Int)) /\ New0 w w' := by
 have hend : Hid (New0 w (w.alloc (.cells #[.int .i64 (l : Int), .int .i64 (t : Int)] 304 (0, 0)))) := Lib.hid ((Upon.refl _ w).alloc _)
 go_enter Tryz.func236, Tryz.ntmps236
 go_wp2_with fail
 go_ret
 exact ⟨ret_int (by omega), hend.out⟩
set_option maxHeartbeats 1600000 in
theorem holds_any (l t a b : Nat) (w : World) : Calls Tryz.prog 235 #[win l t, win a b] w fun e w' => e = .returned (.bool (decide (l <= a) && decide (t <= b))) /\ New0 w w' := by
 have hend : Hid (New0 w ((w.alloc (.cells #[.int .i64 (l : Int), .int .i64 (t : Int)] 304 (0, 0))).alloc (.cells #[.int .i64 (a : Int), .int .i64 (b : Int)] 304 (0, 0)))) := Lib.hid (((Upon.refl _ w).alloc _).alloc _)
 by_cases h : l <= a
 ·have hd : decide (l <= a) = true := decide_eq_true h
  go_enter Tryz.func235, Tryz.ntmps235
  go_wp2_with fail
  go_ret
  exact ⟨by simp [h], hend.out⟩
 ·have hd : decide (l <= a) = false := decide_eq_false h
  go_enter Tryz.func235, Tryz.ntmps235
  go_wp2_with fail
  go_ret
  exact ⟨by simp [h], hend.out⟩
set_option maxHeartbeats 3200000 in
theorem getBetween_ok (S : Nat -> Prop) (p l t n : Nat) (K : List Bool) (w : World) (h : IsRK w S p K) (hlt : l + t <= 64) (hn : n = 64 - l - t) (hle : n <= K.length) :
  Calls Tryz.prog 261 #[win l t, .pointer (some ⟨p, 0, none⟩)] w fun e w' => e = .returned (.tuple #[.int .u64 ((numOf (K.take n) * 2 ^ t % 2 ^ 64 : Nat) : Int), .bool (decide (numOf (K.take n) ≠ 0))]) /\ ObjStep (fun w S => IsRK w S p (K.drop n)) S w w' := by
 have hbox : New0 w (w.alloc (.cells #[.int .i64 (l : Int), .int .i64 (t : Int)] 304 (0, 0))) := (Upon.refl _ w).alloc _
 have c0 : (w.alloc (.cells #[.int .i64 (l : Int), .int .i64 (t : Int)] 304 (0, 0))).cell? ⟨w.heap.size, 0, none⟩ = some (.int .i64 (l : Int)) := by rw [Lib.cell_of_heap (cell_new w _)]; rfl
 have c1 : (w.alloc (.cells #[.int .i64 (l : Int), .int .i64 (t : Int)] 304 (0, 0))).cell? ⟨w.heap.size, 1, none⟩ = some (.int .i64 (t : Int)) := by rw [Lib.cell_of_heap (cell_new w _)]; rfl
 have hnS : ¬ S w.heap.size := fun hs => by have := (objRK p K).lt w S h _ hs; omega
 have hb : IsRK (w.alloc (.cells #[.int .i64 (l : Int), .int .i64 (t : Int)] 304 (0, 0))) S p K := (objRK p K).kept _ _ S h (fun b hb => hbox.block b ((objRK p K).lt w S h b hb) fun f => f) hbox.size
 have hsz := Lib.hid (fun w => size_any l t hlt w)
 rw [<- hn] at hsz
 have hn64 : n <= 64 := by omega
 clear hn h
 obtain ⟨x, hx⟩ : ∃ x, x = numOf (K.take n) := ⟨_, rfl⟩
 have hsh := shl_u x t
 have hg : Hid (∀ w2, New0 (w.alloc (.cells #[.int .i64 (l : Int), .int .i64 (t : Int)] 304 (0, 0))) w2 -> Calls Tryz.prog 259 #[.pointer (some ⟨p, 0, none⟩), .int .i64 (n : Int)] w2 fun e w' => e = .returned (.tuple #[.int .u64 (x : Int), .bool true]) /\ ObjStep (fun w S => IsRK w S p (K.drop n)) S w w' /\ w'.cell? ⟨w.heap.size, 1, none⟩ = some (.int .i64 (t : Int))) := Lib.hid fun w2 hu => by
  have hb2 : IsRK w2 S p K := (objRK p K).kept _ _ S hb (fun b hb3 => hu.block b ((objRK p K).lt _ S hb b hb3) fun f => f) hu.size
  rw [hx]
  exact (rkGet_ok S p K n w2 hb2 hn64 hle).mono fun e w' ⟨he, hs⟩ => ⟨he, preNew (hbox.trans hu) hs, cellBeside hs hnS (New0.cell hu c1)⟩
 rw [<- hx]
 clear hx hnS hb hbox
 go_enter Tryz.func261, Tryz.ntmps261
 go_wp2_with fail
 refine (hsz.out _).mono ?_
 rintro e w2 ⟨rfl, hu2⟩
 clear c0 c1 hsz
 go_wp2_with fail
 refine (hg.out _ hu2).mono ?_
 rintro e w3 ⟨rfl, h3, c1⟩
 clear hg
 replace h3 := Lib.hid h3
 by_cases h0 : x = 0
 ·have hd : ((x : Int) != 0) = false := by rw [h0]; rfl
  go_wp2_with fail
  go_ret2
  exact ⟨ret_ub (by rw [h0]; simp) (by rw [h0]; simp), h3.out⟩
 ·have hd : ((x : Int) != 0) = true := by rw [bne_iff_ne]; omega
  go_wp2_with fail
  go_ret2
  exact ⟨ret_ub (by rw [Int.natCast_emod, Int.natCast_mul, Int.natCast_pow]; rfl) (by simp [h0]), h3.out⟩
set_option maxHeartbeats 3200000 in
theorem getBetween_no (S : Nat -> Prop) (p l t n : Nat) (K : List Bool) (w : World) (h : IsRK w S p K) (hlt : l + t <= 64) (hn : n = 64 - l - t) (hle : ¬ n <= K.length) :
  Calls Tryz.prog 261 #[win l t, .pointer (some ⟨p, 0, none⟩)] w fun e w' => e = .returned (.tuple #[.int .u64 0, .bool false]) /\ ObjStep (fun w S => IsRK w S p K) S w w' := by
 have hbox : New0 w (w.alloc (.cells #[.int .i64 (l : Int), .int .i64 (t : Int)] 304 (0, 0))) := (Upon.refl _ w).alloc _
 have c0 : (w.alloc (.cells #[.int .i64 (l : Int), .int .i64 (t : Int)] 304 (0, 0))).cell? ⟨w.heap.size, 0, none⟩ = some (.int .i64 (l : Int)) := by rw [Lib.cell_of_heap (cell_new w _)]; rfl
 have c1 : (w.alloc (.cells #[.int .i64 (l : Int), .int .i64 (t : Int)] 304 (0, 0))).cell? ⟨w.heap.size, 1, none⟩ = some (.int .i64 (t : Int)) := by rw [Lib.cell_of_heap (cell_new w _)]; rfl
 have hnS : ¬ S w.heap.size := fun hs => by have := (objRK p K).lt w S h _ hs; omega
 have hb : IsRK (w.alloc (.cells #[.int .i64 (l : Int), .int .i64 (t : Int)] 304 (0, 0))) S p K := (objRK p K).kept _ _ S h (fun b hb => hbox.block b ((objRK p K).lt w S h b hb) fun f => f) hbox.size
 have hsz := Lib.hid (fun w => size_any l t hlt w)
 rw [<- hn] at hsz
 have hn64 : n <= 64 := by omega
 clear hn h
 have hg : Hid (∀ w2, New0 (w.alloc (.cells #[.int .i64 (l : Int), .int .i64 (t : Int)] 304 (0, 0))) w2 -> Calls Tryz.prog 259 #[.pointer (some ⟨p, 0, none⟩), .int .i64 (n : Int)] w2 fun e w' => e = .returned (.tuple #[.int .u64 0, .bool false]) /\ ObjStep (fun w S => IsRK w S p K) S w w' /\ w'.cell? ⟨w.heap.size, 1, none⟩ = some (.int .i64 (t : Int))) := Lib.hid fun w2 hu => by
  have hb2 : IsRK w2 S p K := (objRK p K).kept _ _ S hb (fun b hb3 => hu.block b ((objRK p K).lt _ S hb b hb3) fun f => f) hu.size
  exact (rkGet_no S p K n w2 hb2 (by omega)).mono fun e w' ⟨he, hs⟩ => ⟨he, preNew (hbox.trans hu) hs, cellBeside hs hnS (New0.cell hu c1)⟩
 clear hnS hb hbox
 go_enter Tryz.func261, Tryz.ntmps261
 go_wp2_with fail
 refine (hsz.out _).mono ?_
 rintro e w2 ⟨rfl, hu2⟩
 clear c0 c1 hsz
 go_wp2_with fail
 refine (hg.out _ hu2).mono ?_
 rintro e w3 ⟨rfl, h3, c1⟩
 clear hg
 replace h3 := Lib.hid h3
 go_wp2_with fail
 go_ret2
 exact ⟨rfl, h3.out⟩
set_option maxHeartbeats 3200000 in
theorem getWindow_no5 (S : Nat -> Prop) (p : Nat) (K : List Bool) (w : World) (h : IsRK w S p K) (hle : K.length < 5) :
  Calls Tryz.prog 266 #[.pointer (some ⟨p, 0, none⟩)] w fun e w' => e = .returned (.tuple #[win 0 0, .bool false]) /\ ∃ K', ObjStep (fun w S => IsRK w S p K') S w w' := by
 have hbox : New0 w (w.alloc (.cells #[.int .i64 0, .int .i64 0] 304 (0, 0))) := (Upon.refl _ w).alloc _
 have hb : IsRK (w.alloc (.cells #[.int .i64 0, .int .i64 0] 304 (0, 0))) S p K := (objRK p K).kept _ _ S h (fun b hb => hbox.block b ((objRK p K).lt w S h b hb) fun f => f) hbox.size
 have hnS : ¬ S w.heap.size := fun hs => by have := (objRK p K).lt w S h _ hs; omega
 have hB : Boxed w.heap.size (.int .i64 0) (.int .i64 0) (w.alloc (.cells #[.int .i64 0, .int .i64 0] 304 (0, 0))) := Boxed.of (cell_new w _)
 have hend : Hid (∀ K' w' x y, ObjStep (fun w S => IsRK w S p K') S (w.alloc (.cells #[.int .i64 0, .int .i64 0] 304 (0, 0))) w' -> ObjStep (fun w S => IsRK w S p K') S w ((w'.setCell ⟨w.heap.size, 0, none⟩ x).setCell ⟨w.heap.size, 1, none⟩ y)) :=
  Lib.hid fun K' w' x y H => endBeside (objRK p K') hbox H hnS (Nat.le_refl _) (by simp) (upon_set2 _ _ _ _)
 have hB2 : Hid (∀ K' w', ObjStep (fun w S => IsRK w S p K') S (w.alloc (.cells #[.int .i64 0, .int .i64 0] 304 (0, 0))) w' -> Boxed w.heap.size (.int .i64 0) (.int .i64 0) w') := Lib.hid fun K' w' H => hB.beside H hnS
 have H0 := ObjStep.refl (I := fun w S => IsRK w S p K) hb
 clear h hb hnS hB hbox
 have hg := Lib.hid (rkStepNo H0 5 hle)
 clear H0
 go_enter Tryz.func266, Tryz.ntmps266
 go_wp2_with fail
 refine hg.out.mono ?_
 rintro e w2 ⟨rfl, h2⟩
 clear hg
 obtain ⟨c0, c1, f0, f1⟩ := hB2.out _ _ h2
 obtain ⟨d1, d2, d3, d4⟩ := (hB2.out _ _ h2).set (.int .i64 0) (.int .i64 0)
 have hE := Lib.hid (hend.out _ _ (.int .i64 0) (.int .i64 0) h2)
 clear hB2 hend h2
 go_wp2_with fail
 refine bodyPost_ret (v := .tuple #[.agg #[.int .i64 0, .int .i64 0], .bool false]) (by simp [results, Tryz.results266, go_sem, d3, d4]) rfl ⟨rfl, _, hE.out⟩
set_option maxHeartbeats 3200000 in
theorem getWindow_no11 (S : Nat -> Prop) (p : Nat) (K : List Bool) (w : World) (h : IsRK w S p K) (h5 : 5 <= K.length) (hle : K.length < 11) :
  Calls Tryz.prog 266 #[.pointer (some ⟨p, 0, none⟩)] w fun e w' => e = .returned (.tuple #[win 0 0, .bool false]) /\ ∃ K', ObjStep (fun w S => IsRK w S p K') S w w' := by
 have hbox : New0 w (w.alloc (.cells #[.int .i64 0, .int .i64 0] 304 (0, 0))) := (Upon.refl _ w).alloc _
 have hb : IsRK (w.alloc (.cells #[.int .i64 0, .int .i64 0] 304 (0, 0))) S p K := (objRK p K).kept _ _ S h (fun b hb => hbox.block b ((objRK p K).lt w S h b hb) fun f => f) hbox.size
 have hnS : ¬ S w.heap.size := fun hs => by have := (objRK p K).lt w S h _ hs; omega
 have hB : Boxed w.heap.size (.int .i64 0) (.int .i64 0) (w.alloc (.cells #[.int .i64 0, .int .i64 0] 304 (0, 0))) := Boxed.of (cell_new w _)
 have hend : Hid (∀ K' w' x y, ObjStep (fun w S => IsRK w S p K') S (w.alloc (.cells #[.int .i64 0, .int .i64 0] 304 (0, 0))) w' -> ObjStep (fun w S => IsRK w S p K') S w ((w'.setCell ⟨w.heap.size, 0, none⟩ x).setCell ⟨w.heap.size, 1, none⟩ y)) :=
  Lib.hid fun K' w' x y H => endBeside (objRK p K') hbox H hnS (Nat.le_refl _) (by simp) (upon_set2 _ _ _ _)
 have hB2 : Hid (∀ K' w', ObjStep (fun w S => IsRK w S p K') S (w.alloc (.cells #[.int .i64 0, .int .i64 0] 304 (0, 0))) w' -> Boxed w.heap.size (.int .i64 0) (.int .i64 0) w') := Lib.hid fun K' w' H => hB.beside H hnS
 have H0 := ObjStep.refl (I := fun w S => IsRK w S p K) hb
 clear h hb hnS hB hbox
 have hg := Lib.hid (rkStep H0 5 (by omega) h5 rfl rfl)
 clear H0
 go_enter Tryz.func266, Tryz.ntmps266
 go_wp2_with fail
 refine hg.out.mono ?_
 rintro e w2 ⟨rfl, h2⟩
 clear hg
 have hg2 := Lib.hid (rkStepNo h2 6 (by rw [List.length_drop]; omega))
 clear h2
 go_wp2_with fail
 refine hg2.out.mono ?_
 rintro e w3 ⟨rfl, h3⟩
 clear hg2
 obtain ⟨c0, c1, f0, f1⟩ := hB2.out _ _ h3
 obtain ⟨d1, d2, d3, d4⟩ := (hB2.out _ _ h3).set (.int .i64 0) (.int .i64 0)
 have hE := Lib.hid (hend.out _ _ (.int .i64 0) (.int .i64 0) h3)
 clear hB2 hend h3
 go_wp2_with fail
 refine bodyPost_ret (v := .tuple #[.agg #[.int .i64 0, .int .i64 0], .bool false]) (by simp [results, Tryz.results266, go_sem, d3, d4]) rfl ⟨rfl, _, hE.out⟩
set_option maxHeartbeats 3200000 in
theorem getWindow_not (S : Nat -> Prop) (p : Nat) (K : List Bool) (w : World) (h : IsRK w S p K) (h11 : 11 <= K.length) (P Q : Nat) (hP : numOf (K.take 5) = P) (hQ : numOf ((K.drop 5).take 6) = Q) (hs : 64 < P + Q + 1) :
  Calls Tryz.prog 266 #[.pointer (some ⟨p, 0, none⟩)] w fun e w' => e = .returned (.tuple #[win 0 0, .bool false]) /\ ∃ K', ObjStep (fun w S => IsRK w S p K') S w w' := by
 have hbox : New0 w (w.alloc (.cells #[.int .i64 0, .int .i64 0] 304 (0, 0))) := (Upon.refl _ w).alloc _
 have hb : IsRK (w.alloc (.cells #[.int .i64 0, .int .i64 0] 304 (0, 0))) S p K := (objRK p K).kept _ _ S h (fun b hb => hbox.block b ((objRK p K).lt w S h b hb) fun f => f) hbox.size
 have hnS : ¬ S w.heap.size := fun hs => by have := (objRK p K).lt w S h _ hs; omega
 have hB : Boxed w.heap.size (.int .i64 0) (.int .i64 0) (w.alloc (.cells #[.int .i64 0, .int .i64 0] 304 (0, 0))) := Boxed.of (cell_new w _)
 have hend : Hid (∀ K' w' x y, ObjStep (fun w S => IsRK w S p K') S (w.alloc (.cells #[.int .i64 0, .int .i64 0] 304 (0, 0))) w' -> ObjStep (fun w S => IsRK w S p K') S w ((w'.setCell ⟨w.heap.size, 0, none⟩ x).setCell ⟨w.heap.size, 1, none⟩ y)) :=
  Lib.hid fun K' w' x y H => endBeside (objRK p K') hbox H hnS (Nat.le_refl _) (by simp) (upon_set2 _ _ _ _)
 have hB2 : Hid (∀ K' w', ObjStep (fun w S => IsRK w S p K') S (w.alloc (.cells #[.int .i64 0, .int .i64 0] 304 (0, 0))) w' -> Boxed w.heap.size (.int .i64 0) (.int .i64 0) w') := Lib.hid fun K' w' H => hB.beside H hnS
 have H0 := ObjStep.refl (I := fun w S => IsRK w S p K) hb
 clear h hb hnS hB hbox
 have hPl : P < 32 := by
  have := numOf_lt (K.take 5)
  rw [hP, List.length_take, Nat.min_eq_left (by omega)] at this
  exact this
 have hQl : Q < 64 := by
  have := numOf_lt ((K.drop 5).take 6)
  rw [hQ, List.length_take, List.length_drop, Nat.min_eq_left (by omega)] at this
  exact this
 have hg := Lib.hid (rkStep H0 5 (by omega) (by omega) hP rfl)
 have hQ2 := Lib.hid hQ
 clear H0 hP hQ
 have hd : decide ((64 : Int) - (P : Int) - (Q : Int) - 1 < 0) = true := decide_eq_true (by omega)
 go_enter Tryz.func266, Tryz.ntmps266
 go_wp2_with fail
 refine hg.out.mono ?_
 rintro e w2 ⟨rfl, h2⟩
 clear hg
 have hg2 := Lib.hid (rkStep h2 6 (by omega) (by rw [List.length_drop]; omega) hQ2.out (by rw [List.drop_drop]))
 clear h2 hQ2
 go_wp2_with fail
 refine hg2.out.mono ?_
 rintro e w3 ⟨rfl, h3⟩
 clear hg2
 obtain ⟨c0, c1, f0, f1⟩ := hB2.out _ _ h3
 obtain ⟨d1, d2, d3, d4⟩ := (hB2.out _ _ h3).set (.int .i64 0) (.int .i64 0)
 have hE := Lib.hid (hend.out _ _ (.int .i64 0) (.int .i64 0) h3)
 clear hB2 hend h3
 go_wp2_with fail
 refine bodyPost_ret (v := .tuple #[.agg #[.int .i64 0, .int .i64 0], .bool false]) (by simp [results, Tryz.results266, go_sem, d3, d4]) rfl ⟨rfl, _, hE.out⟩
set_option maxHeartbeats 3200000 in
theorem getWindow_ok (S : Nat -> Prop) (p : Nat) (K : List Bool) (w : World) (h : IsRK w S p K) (h11 : 11 <= K.length) (P Q : Nat) (hP : numOf (K.take 5) = P) (hQ : numOf ((K.drop 5).take 6) = Q) (hs : P + Q + 1 <= 64) :
  Calls Tryz.prog 266 #[.pointer (some ⟨p, 0, none⟩)] w fun e w' => e = .returned (.tuple #[win P (63 - P - Q), .bool true]) /\ ObjStep (fun w S => IsRK w S p (K.drop 11)) S w w' := by
 have hbox : New0 w (w.alloc (.cells #[.int .i64 0, .int .i64 0] 304 (0, 0))) := (Upon.refl _ w).alloc _
 have hb : IsRK (w.alloc (.cells #[.int .i64 0, .int .i64 0] 304 (0, 0))) S p K := (objRK p K).kept _ _ S h (fun b hb => hbox.block b ((objRK p K).lt w S h b hb) fun f => f) hbox.size
 have hnS : ¬ S w.heap.size := fun hs => by have := (objRK p K).lt w S h _ hs; omega
 have hB : Boxed w.heap.size (.int .i64 0) (.int .i64 0) (w.alloc (.cells #[.int .i64 0, .int .i64 0] 304 (0, 0))) := Boxed.of (cell_new w _)
 have hend : Hid (∀ K' w' x y, ObjStep (fun w S => IsRK w S p K') S (w.alloc (.cells #[.int .i64 0, .int .i64 0] 304 (0, 0))) w' -> ObjStep (fun w S => IsRK w S p K') S w ((w'.setCell ⟨w.heap.size, 0, none⟩ x).setCell ⟨w.heap.size, 1, none⟩ y)) :=
  Lib.hid fun K' w' x y H => endBeside (objRK p K') hbox H hnS (Nat.le_refl _) (by simp) (upon_set2 _ _ _ _)
 have hB2 : Hid (∀ K' w', ObjStep (fun w S => IsRK w S p K') S (w.alloc (.cells #[.int .i64 0, .int .i64 0] 304 (0, 0))) w' -> Boxed w.heap.size (.int .i64 0) (.int .i64 0) w') := Lib.hid fun K' w' H => hB.beside H hnS
 have H0 := ObjStep.refl (I := fun w S => IsRK w S p K) hb
 clear h hb hnS hB hbox
 have hPl : P < 32 := by
  have := numOf_lt (K.take 5)
  rw [hP, List.length_take, Nat.min_eq_left (by omega)] at this
  exact this
 have hQl : Q < 64 := by
  have := numOf_lt ((K.drop 5).take 6)
  rw [hQ, List.length_take, List.length_drop, Nat.min_eq_left (by omega)] at this
  exact this
 have hg := Lib.hid (rkStep H0 5 (by omega) (by omega) hP rfl)
 have hQ2 := Lib.hid hQ
 clear H0 hP hQ
 have hd : decide ((64 : Int) - (P : Int) - (Q : Int) - 1 < 0) = false := decide_eq_false (by omega)
 have hi : (64 : Int) - (P : Int) - (Q : Int) - 1 = ((63 - P - Q : Nat) : Int) := by omega
 go_enter Tryz.func266, Tryz.ntmps266
 go_wp2_with fail
 refine hg.out.mono ?_
 rintro e w2 ⟨rfl, h2⟩
 clear hg
 have hg2 := Lib.hid (rkStep h2 6 (by omega) (by rw [List.length_drop]; omega) hQ2.out (by rw [List.drop_drop]))
 clear h2 hQ2
 go_wp2_with fail
 refine hg2.out.mono ?_
 rintro e w3 ⟨rfl, h3⟩
 clear hg2
 obtain ⟨c0, c1, f0, f1⟩ := hB2.out _ _ h3
 obtain ⟨d1, d2, d3, d4⟩ := (hB2.out _ _ h3).set (.int .i64 (P : Int)) (.int .i64 ((63 - P - Q : Nat) : Int))
 have hE := Lib.hid (hend.out _ _ (.int .i64 (P : Int)) (.int .i64 ((63 - P - Q : Nat) : Int)) h3)
 clear hB2 hend h3
 go_wp2_with fail
 refine bodyPost_ret (v := .tuple #[win P (63 - P - Q), .bool true]) (by simp [results, Tryz.results266, go_sem, d3, d4]) rfl ⟨rfl, hE.out⟩
end Xr
end
section
open Go.RowKit Go.Sort
namespace Xr
open Bit Dsk Ob
def wl (c : Cd) : Nat := if c.win then c.lead else 0
def wt (c : Cd) : Nat := if c.win then c.tail else 64
theorem wlt {c : Cd} (h : c.Ok) : wl c + wt c <= 64 := by
 have := h.sum
 unfold wl wt
 split <;> omega
def pCells (c : Cd) : Array Value := #[.int .i64 (wl c : Int), .int .i64 (wt c : Int), .bool c.begun, .int .u64 (c.v : Int)]
def IsCd (q : Nat) (c : Cd) : Ob.Rel := fun w S => w.heap[q]? = some (.cells (pCells c) 306 (0, 0)) /\ ∀ x, S x ↔ x = q
theorem objCd (q : Nat) (c : Cd) : Thing (IsCd q c) := ⟨fun w w' S h hk _ => ⟨(hk q ((h.2 q).2 rfl)).trans h.1, h.2⟩, fun w S h x hx => by rw [(h.2 x).1 hx]; exact (Array.getElem?_eq_some_iff.1 h.1).1⟩
theorem cd4 {w : World} {q : Nat} {c : Cd} (h : w.heap[q]? = some (.cells (pCells c) 306 (0, 0))) :
  w.cell? ⟨q, 0, none⟩ = some (.int .i64 (wl c : Int)) /\ w.cell? ⟨q, 1, none⟩ = some (.int .i64 (wt c : Int)) /\ w.cell? ⟨q, 2, none⟩ = some (.bool c.begun) /\ w.cell? ⟨q, 3, none⟩ = some (.int .u64 (c.v : Int)) /\ ∀ o, w.frozen? ⟨q, o, none⟩ = false := by
 refine ⟨?_, ?_, ?_, ?_, fun o => Lib.frozen_of_heap h o⟩ <;> (rw [Lib.cell_of_heap h]; rfl)
theorem cdSet {w : World} {A : Nat -> Prop} {q o : Nat} {c c' : Cd} {v : Value} (h : IsCd q c w A) (he : (pCells c).setIfInBounds o v = pCells c') : ObjStep (IsCd q c') A w (w.setCell ⟨q, o, none⟩ v) :=
 stepCell ((h.2 q).2 rfl) ⟨by rw [<- he]; simp [World.setCell, Array.getElem?_modify, h.1], h.2⟩
theorem cdSet2 {w : World} {A : Nat -> Prop} {q : Nat} {c : Cd} (h : IsCd q c w A) (l t : Nat) : ObjStep (IsCd q { c with win := true, lead := l, tail := t }) A w ((w.setCell ⟨q, 0, none⟩ (.int .i64 (l : Int))).setCell ⟨q, 1, none⟩ (.int .i64 (t : Int))) := by
 refine ⟨⟨A, ⟨?_, h.2⟩, fun _ h => h, fun _ h => .inl h⟩, ((Upon.refl A w).setCell (p := ⟨q, 0, none⟩) (.inl ((h.2 q).2 rfl)) _).setCell (p := ⟨q, 1, none⟩) (.inl ((h.2 q).2 rfl)) _⟩
 have e : ((pCells c).setIfInBounds 0 (.int .i64 (l : Int))).setIfInBounds 1 (.int .i64 (t : Int)) = pCells { c with win := true, lead := l, tail := t } := rfl
 rw [<- e]
 simp [World.setCell, Array.getElem?_modify, h.1]
def CMade (w : World) (e : Ending) (w' : World) : Prop := ∃ q, e = .returned (.pointer (some ⟨q, 0, none⟩)) /\ IsCd q newC w' (fun x => x = q) /\ w.heap.size <= q /\ New0 w w'
set_option maxHeartbeats 800000 in
theorem new_any (w : World) : Calls Tryz.prog 193 #[] w (CMade w) := by
 have H : Hid (CMade w (.returned (.pointer (some ⟨w.heap.size, 0, none⟩))) (w.alloc (.cells #[.int .i64 0, .int .i64 64, .bool false, .int .u64 0] 306 (0, 0)))) := Lib.hid
  ⟨w.heap.size, rfl, ⟨cell_new w _, fun x => Iff.rfl⟩, Nat.le_refl _, (Upon.refl _ w).alloc _⟩
 go_enter Tryz.func193, Tryz.ntmps193
 go_wp2
 go_ret
 exact H.out
theorem holdsB {w : World} (l t a b : Nat) (d : Nat) (os : Array Go.Obj) : Calls Tryz.prog 235 #[win l t, win a b] (grow (redrawn w d) os) fun e w' => e = .returned (.bool (decide (l <= a) && decide (t <= b))) /\ Below (grow (redrawn w d) os).heap.size (grow (redrawn w d) os) w' :=
 (holds_any l t a b _).mono fun _ _ ⟨he, hu⟩ => ⟨he, belowOf hu⟩
end Xr
end
section
namespace Xr
open Bit
end Xr
end
section
namespace Xr
open Bit
theorem xor_back (a b : Nat) : a ^^^ (a ^^^ b) = b := by rw [<- Nat.xor_assoc, Nat.xor_self, Nat.zero_xor]
theorem xor_back2 (a b : Nat) : (a ^^^ b) ^^^ a = b := by rw [Nat.xor_comm (a ^^^ b), xor_back]
theorem getR_first {c : Cd} (hb : c.begun = false) (K : List Bool) : getR c K = if 64 <= K.length then some (numOf (K.take 64), 64) else none := by
 unfold getR guess putB
 rw [if_pos hb]
 by_cases h : 64 <= K.length
 ·rw [if_pos h]
  have e : bitsOf (numOf (K.take 64)) 64 = K.take 64 := by
   have := bitsOf_numOf (K.take 64)
   rwa [List.length_take, Nat.min_eq_left h] at this
  simp only [if_pos hb, e, if_true]
 ·rw [if_neg h]
theorem getR_yes {c : Cd} {K : List Bool} {v n : Nat} (hg : guess c K = some (v, n)) (e : putB c v = K.take n) : getR c K = some (v, n) := by
 unfold getR; rw [hg]; exact if_pos e
theorem getR_no {c : Cd} {K : List Bool} {v n : Nat} (hg : guess c K = some (v, n)) (e : putB c v ≠ K.take n) : getR c K = none := by
 unfold getR; rw [hg]; exact if_neg e
theorem begun_not {c : Cd} (hb : c.begun = true) : ¬ c.begun = false := by simp [hb]
theorem getR_same {c : Cd} (hb : c.begun = true) (R : List Bool) : getR c (false :: R) = some (c.v, 1) := by
 unfold getR guess putB
 simp [hb]
theorem getR_one {c : Cd} (hb : c.begun = true) : getR c [true] = none := by
 unfold getR guess
 simp [hb]
theorem getR_none {c : Cd} (hb : c.begun = true) (hw : c.win = false) (R : List Bool) : getR c (true :: false :: R) = none := by
 unfold getR guess
 simp [hb, hw]
theorem lead_ge' {d l : Nat} (hl : l <= 31) (h : d < 2 ^ (64 - l)) : l <= lead d := by
 refine Nat.le_of_not_lt fun hlt => ?_
 have h1 := lead_stop (d := d) (by omega)
 have h2 : 2 ^ (64 - l) <= 2 ^ (63 - lead d) := Nat.pow_le_pow_right (by decide) (by omega)
 omega
theorem tail_ge {d t : Nat} (hd : d < 2 ^ 64) (h0 : d ≠ 0) (h : 2 ^ t ∣ d) : t <= tail d := by
 refine Nat.le_of_not_lt fun hlt => ?_
 have h1 := tail_odd hd (by omega)
 obtain ⟨q, rfl⟩ := h
 have e : 2 ^ t * q = 2 ^ tail (2 ^ t * q) * (2 * (2 ^ (t - tail (2 ^ t * q) - 1) * q)) := by
  rw [<- Nat.mul_assoc 2, <- Nat.pow_succ', <- Nat.mul_assoc, <- Nat.pow_add]
  congr 2; omega
 generalize tail (2 ^ t * q) = k at *
 rw [e, Nat.mul_div_cancel_left _ (Nat.two_pow_pos k)] at h1
 omega
theorem mid_of {l t n : Nat} (X : List Bool) (hX : X.length = n) (hn : n = 64 - l - t) (hlt : l + t <= 64) : numOf X * 2 ^ t < 2 ^ (64 - l) := by
 have h := numOf_lt X
 have e : 64 - l = (64 - l - t) + t := by omega
 rw [e, Nat.pow_add, <- hn, <- hX]
 exact Nat.mul_lt_mul_of_pos_right h (Nat.two_pow_pos _)
theorem getR_within {c : Cd} (hc : c.Ok) (hb : c.begun = true) (hw : c.win = true) (R : List Bool) (n : Nat) (hn : n = 64 - c.lead - c.tail) :
  getR c (true :: false :: R) = if n <= R.length /\ numOf (R.take n) ≠ 0 then some (c.v ^^^ (numOf (R.take n) * 2 ^ c.tail), n + 2) else none := by
 have hsum := hc.sum
 have hl := hc.lead
 have hlen : n <= R.length -> (R.take n).length = n := fun h => by rw [List.length_take, Nat.min_eq_left h]
 by_cases h : n <= R.length
 ·have hm : numOf (R.take n) * 2 ^ c.tail < 2 ^ (64 - c.lead) := mid_of _ (hlen h) hn (by omega)
  have hm64 : numOf (R.take n) * 2 ^ c.tail < 2 ^ 64 := Nat.lt_of_lt_of_le hm (Nat.pow_le_pow_right (by decide) (by omega))
  have eg : guess c (true :: false :: R) = some (c.v ^^^ (numOf (R.take n) * 2 ^ c.tail), n + 2) := by
   unfold guess
   rw [if_neg (begun_not hb)]
   simp only [hw, true_and, <- hn]
   rw [if_pos h, Nat.mod_eq_of_lt hm64, show 66 - c.lead - c.tail = n + 2 by omega]
  have et : (true :: false :: R).take (n + 2) = true :: false :: R.take n := rfl
  by_cases h0 : numOf (R.take n) = 0
  ·rw [if_neg (fun hh => hh.2 h0)]
   refine getR_no eg ?_
   rw [et]
   have e : putB c (c.v ^^^ (numOf (R.take n) * 2 ^ c.tail)) = [false] := by
    unfold putB
    rw [if_neg (begun_not hb), xor_back2, h0, Nat.zero_mul, if_pos rfl]
   rw [e]
   simp
  ·rw [if_pos ⟨h, h0⟩]
   refine getR_yes eg ?_
   rw [et]
   have e : putB c (c.v ^^^ (numOf (R.take n) * 2 ^ c.tail)) = true :: false :: R.take n := by
    have hd0 : numOf (R.take n) * 2 ^ c.tail ≠ 0 := Nat.ne_of_gt (Nat.mul_pos (Nat.pos_of_ne_zero h0) (Nat.two_pow_pos _))
    unfold putB
    rw [if_neg (begun_not hb), xor_back2, if_neg hd0, if_pos ⟨hw, lead_ge' hl hm, tail_ge hm64 hd0 (Nat.dvd_mul_left _ _)⟩, Nat.mul_div_cancel _ (Nat.two_pow_pos _), <- hn]
    have := bitsOf_numOf (R.take n)
    rw [hlen h] at this
    rw [this]; rfl
   exact e
 ·rw [if_neg (fun hh => h hh.1)]
  have eg : guess c (true :: false :: R) = none := by
   unfold guess
   rw [if_neg (begun_not hb)]
   simp only [hw, true_and, <- hn]
   rw [if_neg h]
  unfold getR
  rw [eg]
theorem bits_inj {n a b : Nat} (ha : a < 2 ^ n) (hb : b < 2 ^ n) (h : bitsOf a n = bitsOf b n) : a = b := by
 have := congrArg numOf h
 rw [numOf_bitsOf, numOf_bitsOf, Nat.mod_eq_of_lt ha, Nat.mod_eq_of_lt hb] at this
 exact this
theorem getR_new {c : Cd} (hc : c.Ok) (hb : c.begun = true) (R : List Bool) (P Q x d : Nat) (hP : numOf (R.take 5) = P) (hQ : numOf ((R.drop 5).take 6) = Q) (hx : numOf ((R.drop 11).take (Q + 1)) = x) (hd : d = x * 2 ^ (63 - P - Q)) :
  getR c (true :: true :: R) = if 11 <= R.length /\ P + Q + 1 <= 64 /\ Q + 1 <= (R.drop 11).length /\ x ≠ 0 /\ lead d = P /\ tail d = 63 - P - Q /\ ¬ (c.win = true /\ c.lead <= lead d /\ c.tail <= tail d) then some (c.v ^^^ d, 14 + Q) else none := by
 have eg : guess c (true :: true :: R) = if 11 <= R.length /\ P + Q + 1 <= 64 /\ Q + 1 <= (R.drop 11).length then some (c.v ^^^ (d % 2 ^ 64), 14 + Q) else none := by
  unfold guess
  rw [if_neg (begun_not hb)]
  simp only [hP, hQ, hx, <- hd]
 by_cases h : 11 <= R.length /\ P + Q + 1 <= 64 /\ Q + 1 <= (R.drop 11).length
 ·obtain ⟨h1, h2, h3⟩ := h
  rw [if_pos ⟨h1, h2, h3⟩] at eg
  have hXl : ((R.drop 11).take (Q + 1)).length = Q + 1 := by rw [List.length_take, Nat.min_eq_left h3]
  have hm : d < 2 ^ (64 - P) := by
   have := mid_of (l := P) (t := 63 - P - Q) (n := Q + 1) _ hXl (by omega) (by omega)
   rw [hx, <- hd] at this
   exact this
  have hm64 : d < 2 ^ 64 := Nat.lt_of_lt_of_le hm (Nat.pow_le_pow_right (by decide) (by omega))
  rw [Nat.mod_eq_of_lt hm64] at eg
  have ht : (true :: true :: R).take (14 + Q) = true :: true :: (R.take 5 ++ ((R.drop 5).take 6 ++ (R.drop 11).take (Q + 1))) := by
   rw [show 14 + Q = (5 + (6 + (Q + 1))) + 2 by omega]
   simp only [List.take_succ_cons]
   rw [List.take_add, List.take_add, List.drop_drop]
  have hR5 : bitsOf P 5 = R.take 5 := by
   have := bitsOf_numOf (R.take 5)
   rwa [hP, List.length_take, Nat.min_eq_left (by omega)] at this
  have hR6 : bitsOf Q 6 = (R.drop 5).take 6 := by
   have := bitsOf_numOf ((R.drop 5).take 6)
   rwa [hQ, List.length_take, List.length_drop, Nat.min_eq_left (by omega)] at this
  have hRx : bitsOf x (Q + 1) = (R.drop 11).take (Q + 1) := by
   have := bitsOf_numOf ((R.drop 11).take (Q + 1))
   rwa [hx, hXl] at this
  have hPl : P < 2 ^ 5 := by
   have := numOf_lt (R.take 5)
   rwa [hP, List.length_take, Nat.min_eq_left (by omega)] at this
  have hQl : Q < 2 ^ 6 := by
   have := numOf_lt ((R.drop 5).take 6)
   rwa [hQ, List.length_take, List.length_drop, Nat.min_eq_left (by omega)] at this
  by_cases hg : x ≠ 0 /\ lead d = P /\ tail d = 63 - P - Q /\ ¬ (c.win = true /\ c.lead <= lead d /\ c.tail <= tail d)
  ·obtain ⟨h4, h5, h6, h7⟩ := hg
   have hd0 : d ≠ 0 := by rw [hd]; exact Nat.ne_of_gt (Nat.mul_pos (Nat.pos_of_ne_zero h4) (Nat.two_pow_pos _))
   have e : putB c (c.v ^^^ d) = true :: true :: (R.take 5 ++ ((R.drop 5).take 6 ++ (R.drop 11).take (Q + 1))) := by
    unfold putB
    rw [if_neg (begun_not hb), xor_back2, if_neg hd0, if_neg h7, h5, h6, show 63 - P - (63 - P - Q) = Q by omega, show 64 - P - (63 - P - Q) = Q + 1 by omega]
    have e3 : d / 2 ^ (63 - P - Q) = x := by rw [hd, Nat.mul_div_cancel _ (Nat.two_pow_pos _)]
    rw [e3, hR5, hR6, hRx]
    simp
   rw [if_pos ⟨h1, h2, h3, h4, h5, h6, h7⟩]
   exact getR_yes eg (by rw [ht]; exact e)
  ·rw [if_neg (fun hh => hg hh.2.2.2)]
   refine getR_no eg ?_
   rw [ht]
   intro e
   apply hg
   unfold putB at e
   rw [if_neg (begun_not hb), xor_back2] at e
   by_cases hd0 : d = 0
   ·rw [if_pos hd0] at e; simp at e
   ·rw [if_neg hd0] at e
    by_cases h7 : c.win = true /\ c.lead <= lead d /\ c.tail <= tail d
    ·rw [if_pos h7] at e; simp at e
    ·rw [if_neg h7] at e
     have hs := sum_le hm64 (Nat.pos_of_ne_zero hd0)
     have hl31 := lead_le d
     simp only [List.cons_append, List.nil_append, List.cons.injEq, true_and, List.append_assoc] at e
     have e5 := List.append_inj e (by rw [bitsOf_length, List.length_take, Nat.min_eq_left (by omega)])
     have p5 : lead d = P := bits_inj (n := 5) (by omega) hPl (by rw [e5.1, hR5])
     have e6 := List.append_inj e5.2 (by rw [bitsOf_length, List.length_take, List.length_drop, Nat.min_eq_left (by omega)])
     have p6 : 63 - lead d - tail d = Q := bits_inj (n := 6) (by omega) hQl (by rw [e6.1, hR6])
     exact ⟨fun h0 => hd0 (by rw [hd, h0, Nat.zero_mul]), p5, by omega, h7⟩
 ·rw [if_neg h] at eg
  rw [if_neg (fun hh => h ⟨hh.1, hh.2.1, hh.2.2.1⟩)]
  unfold getR; rw [eg]
end Xr
end
section
open Go.RowKit Go.Sort
namespace Xr
open Bit Dsk Ob
abbrev PR (q : Nat) (c : Cd) (p : Nat) (K : List Bool) : Ob.Rel := Tens (IsCd q c) (fun w S => IsRK w S p K)
theorem thingPR (q : Nat) (c : Cd) (p : Nat) (K : List Bool) : Thing (PR q c p K) := Tens.ob (objCd q c) (objRK p K)
theorem prGet {S : Nat -> Prop} {w0 w : World} {q p : Nat} {c : Cd} {K K' : List Bool} {x : Nat} (H : ObjStep (PR q c p K) S w0 w) (m : Nat) (hm : m <= 64) (hle : m <= K.length) (hx : numOf (K.take m) = x) (e : K.drop m = K') :
  Calls Tryz.prog 259 #[.pointer (some ⟨p, 0, none⟩), .int .i64 (m : Int)] w fun e w' => e = .returned (.tuple #[.int .u64 (x : Int), .bool true]) /\ ObjStep (PR q c p K') S w0 w' := by
 subst e; subst hx
 exact callR (Q := fun e => e = .returned (.tuple #[.int .u64 (numOf (K.take m) : Int), .bool true])) (objCd q c) H fun A h => rkGet_ok A p K m w h hm hle
theorem prNo {S : Nat -> Prop} {w0 w : World} {q p : Nat} {c : Cd} {K : List Bool} (H : ObjStep (PR q c p K) S w0 w) (m : Nat) (hle : K.length < m) :
  Calls Tryz.prog 259 #[.pointer (some ⟨p, 0, none⟩), .int .i64 (m : Int)] w fun e w' => e = .returned (.tuple #[.int .u64 0, .bool false]) /\ ObjStep (PR q c p K) S w0 w' :=
 callR (Q := fun e => e = .returned (.tuple #[.int .u64 0, .bool false])) (objCd q c) H fun A h => rkGet_no A p K m w h (by omega)
theorem prBetween {S : Nat -> Prop} {w0 w : World} {q p : Nat} {c : Cd} {K K' : List Bool} (H : ObjStep (PR q c p K) S w0 w) (l t n x y : Nat) (hlt : l + t <= 64) (hn : n = 64 - l - t) (hle : n <= K.length) (hx : numOf (K.take n) = x) (hy : x * 2 ^ t % 2 ^ 64 = y) {b : Bool} (hb : decide (x ≠ 0) = b) (e : K.drop n = K') :
  Calls Tryz.prog 261 #[win l t, .pointer (some ⟨p, 0, none⟩)] w fun e w' => e = .returned (.tuple #[.int .u64 (y : Int), .bool b]) /\ ObjStep (PR q c p K') S w0 w' := by
 subst e; subst hx; subst hb; subst hy
 exact callR (Q := fun e => e = .returned (.tuple #[.int .u64 ((numOf (K.take n) * 2 ^ t % 2 ^ 64 : Nat) : Int), .bool (decide (numOf (K.take n) ≠ 0))])) (objCd q c) H fun A h => getBetween_ok A p l t n K w h hlt hn hle
theorem prBetweenNo {S : Nat -> Prop} {w0 w : World} {q p : Nat} {c : Cd} {K : List Bool} (H : ObjStep (PR q c p K) S w0 w) (l t n : Nat) (hlt : l + t <= 64) (hn : n = 64 - l - t) (hle : ¬ n <= K.length) :
  Calls Tryz.prog 261 #[win l t, .pointer (some ⟨p, 0, none⟩)] w fun e w' => e = .returned (.tuple #[.int .u64 0, .bool false]) /\ ObjStep (PR q c p K) S w0 w' :=
 callR (Q := fun e => e = .returned (.tuple #[.int .u64 0, .bool false])) (objCd q c) H fun A h => getBetween_no A p l t n K w h hlt hn hle
theorem prCells {S : Nat -> Prop} {w0 w : World} {q p : Nat} {c : Cd} {K : List Bool} (H : ObjStep (PR q c p K) S w0 w) :
  w.cell? ⟨q, 0, none⟩ = some (.int .i64 (wl c : Int)) /\ w.cell? ⟨q, 1, none⟩ = some (.int .i64 (wt c : Int)) /\ w.cell? ⟨q, 2, none⟩ = some (.bool c.begun) /\ w.cell? ⟨q, 3, none⟩ = some (.int .u64 (c.v : Int)) /\ ∀ o, w.frozen? ⟨q, o, none⟩ = false := by
 obtain ⟨A, h⟩ := seeL H
 exact cd4 h.1
theorem prSet {S : Nat -> Prop} {w0 w : World} {q p o : Nat} {c c' : Cd} {K : List Bool} {v : Value} (H : ObjStep (PR q c p K) S w0 w) (he : (pCells c).setIfInBounds o v = pCells c') : ObjStep (PR q c' p K) S w0 (w.setCell ⟨q, o, none⟩ v) :=
 stepL (objRK p K) H fun A h => cdSet h he
theorem prSet2 {S : Nat -> Prop} {w0 w : World} {q p : Nat} {c : Cd} {K : List Bool} (H : ObjStep (PR q c p K) S w0 w) (l t : Nat) : ObjStep (PR q { c with win := true, lead := l, tail := t } p K) S w0 ((w.setCell ⟨q, 0, none⟩ (.int .i64 (l : Int))).setCell ⟨q, 1, none⟩ (.int .i64 (t : Int))) :=
 stepL (objRK p K) H fun A h => cdSet2 h l t
theorem prWindowNo {S : Nat -> Prop} {w0 w : World} {q p : Nat} {c : Cd} {K : List Bool} (H : ObjStep (PR q c p K) S w0 w) (h : ¬ (11 <= K.length /\ numOf (K.take 5) + numOf ((K.drop 5).take 6) + 1 <= 64)) :
  Calls Tryz.prog 266 #[.pointer (some ⟨p, 0, none⟩)] w fun e w' => e = .returned (.tuple #[win 0 0, .bool false]) /\ ObjStep (Tens (IsCd q c) (fun w S => ∃ K', IsRK w S p K')) S w0 w' := by
 refine callR (Q := fun e => e = .returned (.tuple #[win 0 0, .bool false])) (objCd q c) H fun A hr => ?_
 have lift : ∀ e w', (e = Ending.returned (.tuple #[win 0 0, .bool false]) /\ ∃ K', ObjStep (fun w S => IsRK w S p K') A w w') -> e = Ending.returned (.tuple #[win 0 0, .bool false]) /\ ObjStep (fun w S => ∃ K', IsRK w S p K') A w w' := fun e w' ⟨he, K', hs⟩ => ⟨he, hs.mono fun _ hh => ⟨K', hh⟩⟩
 by_cases h5 : K.length < 5
 ·exact (getWindow_no5 A p K w hr h5).mono lift
 ·by_cases h11 : K.length < 11
  ·exact (getWindow_no11 A p K w hr (by omega) h11).mono lift
  ·exact (getWindow_not A p K w hr (by omega) _ _ rfl rfl (by omega)).mono lift
theorem prWindow {S : Nat -> Prop} {w0 w : World} {q p : Nat} {c : Cd} {K K' : List Bool} (H : ObjStep (PR q c p K) S w0 w) (h11 : 11 <= K.length) (P Q : Nat) (hP : numOf (K.take 5) = P) (hQ : numOf ((K.drop 5).take 6) = Q) (hs : P + Q + 1 <= 64) (e : K.drop 11 = K') :
  Calls Tryz.prog 266 #[.pointer (some ⟨p, 0, none⟩)] w fun e w' => e = .returned (.tuple #[win P (63 - P - Q), .bool true]) /\ ObjStep (PR q c p K') S w0 w' := by
 subst e
 exact callR (Q := fun e => e = .returned (.tuple #[win P (63 - P - Q), .bool true])) (objCd q c) H fun A hr => getWindow_ok A p K w hr h11 P Q hP hQ hs
abbrev PX (q : Nat) (c : Cd) (p : Nat) : Ob.Rel := Tens (IsCd q c) (fun w S => ∃ K', IsRK w S p K')
theorem toX {S : Nat -> Prop} {w0 w : World} {q p : Nat} {c : Cd} {K : List Bool} (H : ObjStep (PR q c p K) S w0 w) : ObjStep (PX q c p) S w0 w := H.mono fun _ h => Tens.mapR (fun _ k => ⟨K, k⟩) h
theorem thingX (q : Nat) (c : Cd) (p : Nat) : Thing (PX q c p) := Tens.ob (objCd q c) ⟨fun w w' S ⟨K, h⟩ hk hs => ⟨K, (objRK p K).kept w w' S h hk hs⟩, fun w S ⟨K, h⟩ => (objRK p K).lt w S h⟩
theorem Tab.lt {w : World} (h : Tab w) : 3 < w.heap.size := World.block_lt_of_cell? w _ (h 0 (by decide))
def No (q : Nat) (c : Cd) (p : Nat) (S : Nat -> Prop) (w : World) (e : Ending) (w' : World) : Prop := e = .returned (.tuple #[.int .u64 0, .bool false]) /\ ObjStep (PX q c p) S w w'
set_option maxRecDepth 100000 in
set_option maxHeartbeats 3200000 in
theorem out_none (S : Nat -> Prop) (q p : Nat) (c : Cd) (K : List Bool) (w : World) (h : PR q c p K w S) (hno : ¬ (11 <= K.length /\ numOf (K.take 5) + numOf ((K.drop 5).take 6) + 1 <= 64)) :
  Calls Tryz.prog 262 #[.pointer (some ⟨q, 0, none⟩), .pointer (some ⟨p, 0, none⟩)] w (No q c p S w) := by
 have H := ObjStep.refl (I := PR q c p K) h
 have HG := Lib.hid (prWindowNo H hno)
 clear H h hno
 go_enter Tryz.func262, Tryz.ntmps262
 go_wp2_with fail
 refine HG.out.mono ?_
 rintro e w2 ⟨rfl, h2⟩
 have h3 := Lib.hid (h2.upon0 (thingX q c p) ((Upon.refl _ w2).alloc (.cells #[.int .i64 0, .int .i64 0] 304 (0, 0))))
 clear HG h2
 go_wp2_with fail
 go_ret2
 exact ⟨rfl, h3.out⟩
set_option maxRecDepth 100000 in
set_option maxHeartbeats 3200000 in
theorem out_zero (S : Nat -> Prop) (q p : Nat) (c : Cd) (K : List Bool) (w : World) (h : PR q c p K w S) (h11 : 11 <= K.length) (P Q : Nat) (hP : numOf (K.take 5) = P) (hQ : numOf ((K.drop 5).take 6) = Q) (hs : P + Q + 1 <= 64)
  (hno : ¬ Q + 1 <= (K.drop 11).length \/ numOf ((K.drop 11).take (Q + 1)) = 0) :
  Calls Tryz.prog 262 #[.pointer (some ⟨q, 0, none⟩), .pointer (some ⟨p, 0, none⟩)] w (No q c p S w) := by
 have H := ObjStep.refl (I := PR q c p K) h
 have HG := Lib.hid (prWindow H h11 P Q hP hQ hs rfl)
 have hno2 : ∀ w1, ObjStep (PR q c p (K.drop 11)) S w w1 -> Calls Tryz.prog 261 #[win P (63 - P - Q), .pointer (some ⟨p, 0, none⟩)] w1 fun e w' => e = .returned (.tuple #[.int .u64 0, .bool false]) /\ ObjStep (PX q c p) S w w' := by
  intro w1 h1
  by_cases hle : Q + 1 <= (K.drop 11).length
  ·exact (prBetween h1 P (63 - P - Q) (Q + 1) 0 0 (by omega) (by omega) hle (hno.resolve_left fun k => k hle) (by simp) (b := false) (by simp) rfl).mono fun e w' ⟨he, hs⟩ => ⟨he, toX hs⟩
  ·exact (prBetweenNo h1 P (63 - P - Q) (Q + 1) (by omega) (by omega) hle).mono fun e w' ⟨he, hs⟩ => ⟨he, toX hs⟩
 replace hno2 := Lib.hid hno2
 obtain ⟨t, ht⟩ : ∃ t, t = 63 - P - Q := ⟨_, rfl⟩
 rw [<- ht] at HG hno2
 clear H h hno hP hQ ht hs
 go_enter Tryz.func262, Tryz.ntmps262
 go_wp2_with fail
 refine HG.out.mono ?_
 rintro e w2 ⟨rfl, h2⟩
 have h3 := h2.upon0 (thingPR _ _ _ _) ((Upon.refl _ w2).alloc (.cells #[.int .i64 (P : Int), .int .i64 (t : Int)] 304 (0, 0)))
 have HB := Lib.hid (hno2.out _ h3)
 clear HG h2 hno2 h3
 go_wp2_with fail
 refine HB.out.mono ?_
 rintro e w3 ⟨rfl, h3⟩
 have h4 := Lib.hid (fun n => h3.upon0 (thingX q c p) (upon_drewN _ w3 n))
 clear HB h3
 go_wp2_with fail
 go_quiet (fail)
 go_wp2_with fail
 go_ret2
 exact ⟨rfl, h4.out _⟩
def Od (ok : Prop) (J : Ob.Rel) (q : Nat) (c : Cd) (p : Nat) (S : Nat -> Prop) (w : World) (d : Nat) (e : Ending) (w' : World) : Prop :=
 (ok /\ e = .returned (.tuple #[.int .u64 (d : Int), .bool true]) /\ ObjStep J S w w') \/ (¬ ok /\ No q c p S w e w')
set_option maxRecDepth 100000 in
set_option maxHeartbeats 6400000 in
theorem out_some (S : Nat -> Prop) (q p : Nat) (c : Cd) (K : List Bool) (w : World) (h : PR q c p K w S) (hok : c.Ok) (hT : Tab w) (hG : ¬ S 3) (h11 : 11 <= K.length) (P Q x d : Nat) (hP : numOf (K.take 5) = P) (hQ : numOf ((K.drop 5).take 6) = Q) (hs : P + Q + 1 <= 64)
  (hle : Q + 1 <= (K.drop 11).length) (hx : numOf ((K.drop 11).take (Q + 1)) = x) (hx0 : x ≠ 0) (hd : d = x * 2 ^ (63 - P - Q)) (ok : Prop) (hiff : ok ↔ (Xr.lead d = P /\ Xr.tail d = 63 - P - Q /\ ¬ (c.win = true /\ c.lead <= P /\ c.tail <= 63 - P - Q))) :
  Calls Tryz.prog 262 #[.pointer (some ⟨q, 0, none⟩), .pointer (some ⟨p, 0, none⟩)] w (Od ok (PR q { c with win := true, lead := P, tail := 63 - P - Q } p (K.drop (12 + Q))) q c p S w d) := by
 have H := ObjStep.refl (I := PR q c p K) h
 have HG := Lib.hid (prWindow H h11 P Q hP hQ hs rfl)
 have hd64 : d < 18446744073709551616 := by
  have h1 := mid_of (l := P) (t := 63 - P - Q) (n := Q + 1) ((K.drop 11).take (Q + 1)) (by rw [List.length_take, Nat.min_eq_left hle]) (by omega) (by omega)
  rw [hx, <- hd] at h1
  exact Nat.lt_of_lt_of_le h1 (show 2 ^ (64 - P) <= 2 ^ 64 from Nat.pow_le_pow_right (by decide) (by omega))
 have hd0 : d ≠ 0 := by rw [hd]; exact Nat.ne_of_gt (Nat.mul_pos (Nat.pos_of_ne_zero hx0) (Nat.two_pow_pos (63 - P - Q)))
 obtain ⟨t, ht⟩ : ∃ t, t = 63 - P - Q := ⟨_, rfl⟩
 rw [<- ht] at HG hd hiff ⊢
 have hy : x * 2 ^ t % 2 ^ 64 = d := by rw [<- hd, Nat.mod_eq_of_lt hd64]
 have hB0 := Lib.hid (fun (S' : Nat -> Prop) (w0 w1 : World) (h1 : ObjStep (PR q c p (K.drop 11)) S' w0 w1) => prBetween h1 P t (Q + 1) x d (by omega) (by omega) hle hx hy (b := true) (by simp [hx0]) (K' := K.drop (12 + Q)) (by rw [List.drop_drop]; congr 1; omega))
 have hwin := Lib.hid (fun w hT => windowOf_any d hd64 hd0 w hT)
 have hPt : P + t <= 63 := by omega
 have hcw : (c.win = true /\ c.lead <= P /\ c.tail <= t) ↔ (wl c <= P /\ wt c <= t) := by
  unfold wl wt
  cases c.win with
  | false => simp; omega
  | true => simp
 rw [hcw] at hiff
 replace hiff := Lib.hid hiff
 clear H h hP hQ hs hx hx0 hd hy ht hle h11 hcw
 generalize Xr.lead d = a at *
 generalize Xr.tail d = b at *
 go_enter Tryz.func262, Tryz.ntmps262
 go_wp2_with fail
 refine HG.out.mono ?_
 rintro e w2 ⟨rfl, h2⟩
 clear HG
 have hT2 := hT.upon h2.upon hG
 obtain ⟨S', hI, go, hnS, hB, hS'⟩ := boxStart (thingPR _ _ _ _) h2 (.int .i64 (P : Int)) (.int .i64 (t : Int)) 304
 have hT3 : Tab (w2.alloc (.cells #[.int .i64 (P : Int), .int .i64 (t : Int)] 304 (0, 0))) := hT2.upon ((Upon.refl (fun _ => False) w2).alloc _) fun f => f
 have hG' : ¬ S' 3 := fun hs => (hS' _ hs).elim hG fun hz => Nat.lt_irrefl _ (Nat.lt_of_lt_of_le hT.lt hz)
 clear h2 hT hT2 hS'
 go_wp2_with fail
 generalize w2.alloc (.cells #[.int .i64 (P : Int), .int .i64 (t : Int)] 304 (0, 0)) = wb at *
 generalize w2.heap.size = g at *
 have H4 := ObjStep.refl (I := PR q c p (K.drop 11)) hI
 refine (hB0.out _ _ _ H4).mono ?_
 rintro e w5 ⟨rfl, h5⟩
 clear hB0 H4 hI
 obtain ⟨b0, b1, bf0, bf1⟩ := hB.beside h5 hnS
 obtain ⟨m0, m1, m2, m3, mf⟩ := prCells h5
 have hT5 := hT3.upon h5.upon hG'
 have x0 := fun d os => cell_regrown m0 d os
 have x1 := fun d os => cell_regrown m1 d os
 have y0 := fun d os => cell_regrown b0 d os
 have y1 := fun d os => cell_regrown b1 d os
 have hw5 := Lib.hid (fun d os => (hwin.out (grow (redrawn w5 d) os) (hT5.upon (newOf (below_regrown w5 d os)) fun f => f)).mono fun _ _ ⟨he, hu⟩ => (⟨he, belowOf hu⟩ : _ = _ /\ Below (grow (redrawn w5 d) os).heap.size (grow (redrawn w5 d) os) _))
 by_cases hab : a = P /\ b = t
 ·obtain ⟨rfl, rfl⟩ := hab
  by_cases hh : wl c <= a /\ wt c <= b
  ·have hv : (decide (wl c <= a) && decide (wt c <= b)) = true := by simp [hh.1, hh.2]
   have hhB := Lib.hid (fun d os => hv ▸ holdsB (w := w5) (wl c) (wt c) a b d os)
   have h6 := Lib.hid (fun w6 (hu : New0 w5 w6) => go _ _ (toX (stepNew (thingPR _ _ _ _) h5 hu)))
   clear hv h5 m0 m1 b0 b1 hB hT5 hT3 hwin go
   go_wp2_with fail
   refine wp_region_quiet_below (by kernel_rfl) (by kernel_rfl) ?_
   repeat (go_big_quiet_step (first
    | (go_at_call 235; exact Calls.regrown_of (hhB.out _ _))
    | (go_at_call 234; exact Calls.regrown_of (hw5.out _ _))))
   refine wpQuiet_nil ?_
   intro _ hw'
   obtain ⟨⟨dq, osq⟩, hw''⟩ := hw'
   subst hw''
   have h7 := Lib.hid (h6.out _ (newOf (below_regrown w5 dq osq)))
   clear x0 x1 y0 y1 hw5 hhB h6
   generalize grow (redrawn w5 dq) osq = w6 at *
   go_wp2_with fail
   go_ret2
   exact .inr ⟨fun k => (hiff.out.1 k).2.2 hh, rfl, h7.out⟩
  ·have hv : (decide (wl c <= a) && decide (wt c <= b)) = false := by
    rw [Bool.and_eq_false_iff]
    by_cases h1 : wl c <= a
    ·right; exact decide_eq_false fun h2 => hh ⟨h1, h2⟩
    ·left; exact decide_eq_false h1
   have hhB := Lib.hid (fun d os => hv ▸ holdsB (w := w5) (wl c) (wt c) a b d os)
   have h6 := Lib.hid (fun w6 (hu : New0 w5 w6) => stepNew (thingPR _ _ _ _) h5 hu)
   have hB6 := Lib.hid (fun w6 (hs : ObjStep (PR q c p (K.drop (12 + Q))) S' wb w6) => hB.beside hs hnS)
   replace go := Lib.hid go
   clear hv h5 m0 m1 b0 b1 hB hT5 hT3 hwin
   go_wp2_with fail
   refine wp_region_quiet_below (by kernel_rfl) (by kernel_rfl) ?_
   repeat (go_big_quiet_step (first
    | (go_at_call 235; exact Calls.regrown_of (hhB.out _ _))
    | (go_at_call 234; exact Calls.regrown_of (hw5.out _ _))))
   refine wpQuiet_nil ?_
   intro _ hw'
   obtain ⟨⟨dq, osq⟩, hw''⟩ := hw'
   subst hw''
   have h7 := h6.out _ (newOf (below_regrown w5 dq osq))
   clear x0 x1 y0 y1 hw5 hhB h6
   generalize grow (redrawn w5 dq) osq = w6 at *
   obtain ⟨b0, b1, -, -⟩ := hB6.out _ h7
   obtain ⟨n0, n1, n2, n3, nf⟩ := prCells h7
   have nf0 := nf 0
   have nf1 := nf 1
   have h8 := Lib.hid (go.out _ _ (prSet2 h7 a b))
   clear h7 hB6 go nf m2 m3 mf bf0 bf1
   go_wp2_with fail
   go_ret2
   exact .inl ⟨hiff.out.2 ⟨by first | rfl | trivial, by first | rfl | trivial, hh⟩, rfl, h8.out⟩
 ·have hv : ∃ v, (decide (wl c <= P) && decide (wt c <= t)) = v := ⟨_, rfl⟩
  obtain ⟨v, hv⟩ := hv
  have hhB := Lib.hid (fun d os => hv ▸ holdsB (w := w5) (wl c) (wt c) P t d os)
  have h6 := Lib.hid (fun w6 (hu : New0 w5 w6) => go _ _ (toX (stepNew (thingPR _ _ _ _) h5 hu)))
  clear hv h5 m0 m1 b0 b1 hB hT5 hT3 hwin go
  have hab2 : (a ≠ P) \/ (a = P /\ b ≠ t) := by
   by_cases ha : a = P
   ·exact .inr ⟨ha, fun hb => hab ⟨ha, hb⟩⟩
   ·exact .inl ha
  replace hab := Lib.hid hab
  rcases hab2 with ha | ⟨rfl, hb⟩
  ·have d1 : decide (P = a) = false := decide_eq_false fun e => ha e.symm
   have d2 : ((P : Int) == (a : Int)) = false := by rw [beq_eq_false_iff_ne]; omega
   go_wp2_with fail
   refine wp_region_quiet_below (by kernel_rfl) (by kernel_rfl) ?_
   repeat (go_big_quiet_step (first
    | (go_at_call 235; exact Calls.regrown_of (hhB.out _ _))
    | (go_at_call 234; exact Calls.regrown_of (hw5.out _ _))))
   refine wpQuiet_nil ?_
   intro _ hw'
   obtain ⟨⟨dq, osq⟩, hw''⟩ := hw'
   subst hw''
   have h7 := Lib.hid (h6.out _ (newOf (below_regrown w5 dq osq)))
   clear x0 x1 y0 y1 hw5 hhB h6
   generalize grow (redrawn w5 dq) osq = w6 at *
   go_wp2_with fail
   go_ret2
   exact .inr ⟨fun k => hab.out ⟨(hiff.out.1 k).1, (hiff.out.1 k).2.1⟩, rfl, h7.out⟩
  ·have d1 : decide (t = b) = false := decide_eq_false fun e => hb e.symm
   have d2 : ((t : Int) == (b : Int)) = false := by rw [beq_eq_false_iff_ne]; omega
   go_wp2_with fail
   refine wp_region_quiet_below (by kernel_rfl) (by kernel_rfl) ?_
   repeat (go_big_quiet_step (first
    | (go_at_call 235; exact Calls.regrown_of (hhB.out _ _))
    | (go_at_call 234; exact Calls.regrown_of (hw5.out _ _))))
   refine wpQuiet_nil ?_
   intro _ hw'
   obtain ⟨⟨dq, osq⟩, hw''⟩ := hw'
   subst hw''
   have h7 := Lib.hid (h6.out _ (newOf (below_regrown w5 dq osq)))
   clear x0 x1 y0 y1 hw5 hhB h6
   generalize grow (redrawn w5 dq) osq = w6 at *
   go_wp2_with fail
   go_ret2
   exact .inr ⟨fun k => hab.out ⟨(hiff.out.1 k).1, (hiff.out.1 k).2.1⟩, rfl, h7.out⟩
end Xr
end
section
open Go.RowKit Go.Sort
namespace Xr
open Bit Dsk Ob
def Dg (q : Nat) (c : Cd) (p : Nat) (K : List Bool) (S : Nat -> Prop) (w : World) (o : Option (Nat × Nat)) (e : Ending) (w' : World) : Prop :=
 match o with
 | some (v, n) => ∃ d c', d < 18446744073709551616 /\ c.v ^^^ d = v /\ e = .returned (.tuple #[.int .u64 (d : Int), .bool true]) /\ ObjStep (PR q c' p (K.drop n)) S w w' /\ { c' with begun := true, v := v } = putC c v /\ c'.v = c.v
 | none => ∃ x : Int, e = .returned (.tuple #[.int .u64 x, .bool false]) /\ ObjStep (PX q c p) S w w'
theorem Dg.yes {q : Nat} {c : Cd} {p : Nat} {K : List Bool} {S : Nat -> Prop} {w w' : World} {o : Option (Nat × Nat)} {e : Ending} {v n d : Nat} {c' : Cd} (ho : o = some (v, n)) (hd : d < 18446744073709551616) (hv : c.v ^^^ d = v) (he : e = .returned (.tuple #[.int .u64 (d : Int), .bool true]))
  (hs : ObjStep (PR q c' p (K.drop n)) S w w') (hc : { c' with begun := true, v := v } = putC c v) (hv2 : c'.v = c.v) : Dg q c p K S w o e w' := by
 subst ho; exact ⟨d, c', hd, hv, he, hs, hc, hv2⟩
theorem Dg.no {q : Nat} {c : Cd} {p : Nat} {K : List Bool} {S : Nat -> Prop} {w w' : World} {o : Option (Nat × Nat)} {e : Ending} {x : Int} (ho : o = none) (he : e = .returned (.tuple #[.int .u64 x, .bool false])) (hs : ObjStep (PX q c p) S w w') : Dg q c p K S w o e w' := by
 subst ho; exact ⟨x, he, hs⟩
set_option maxRecDepth 100000 in
set_option maxHeartbeats 3200000 in
theorem gd_first (S : Nat -> Prop) (q p : Nat) (c : Cd) (K : List Bool) (w : World) (h : PR q c p K w S) (hb : c.begun = false) (hf : c.v = 0) (o : Option (Nat × Nat)) (ho : getR c K = o) :
  Calls Tryz.prog 249 #[.pointer (some ⟨q, 0, none⟩), .pointer (some ⟨p, 0, none⟩)] w (Dg q c p K S w o) := by
 have H := ObjStep.refl (I := PR q c p K) h
 obtain ⟨k0, k1, k2, k3, -⟩ := prCells H
 rw [hb] at k2
 rw [getR_first hb] at ho
 have hp : ∀ v, putC c v = { c with begun := true, v := v } := fun v => by unfold putC; rw [if_pos hb]
 by_cases hl : 64 <= K.length
 ·rw [if_pos hl] at ho
  have hx : numOf (K.take 64) < 18446744073709551616 := by
   have := numOf_lt (K.take 64)
   rwa [List.length_take, Nat.min_eq_left hl] at this
  have hv : Hid (c.v ^^^ numOf (K.take 64) = numOf (K.take 64)) := Lib.hid (by rw [hf, Nat.zero_xor])
  have HG := Lib.hid (prGet H 64 (by omega) hl rfl rfl)
  have hk := Lib.hid ho.symm
  have hp2 := Lib.hid (hp (numOf (K.take 64)))
  generalize numOf (K.take 64) = x at *
  clear H h ho hp hf
  go_enter Tryz.func249, Tryz.ntmps249
  go_wp2_with fail
  refine HG.out.mono ?_
  rintro e w2 ⟨rfl, h2⟩
  replace h2 := Lib.hid h2
  clear HG
  go_wp2_with fail
  go_ret2
  exact Dg.yes hk.out hx hv.out rfl h2.out hp2.out.symm rfl
 ·rw [if_neg hl] at ho
  have HG := Lib.hid (prNo H 64 (by omega))
  have hk := Lib.hid ho.symm
  clear H h ho hp hf
  go_enter Tryz.func249, Tryz.ntmps249
  go_wp2_with fail
  refine HG.out.mono ?_
  rintro e w2 ⟨rfl, h2⟩
  replace h2 := Lib.hid (toX h2)
  clear HG
  go_wp2_with fail
  go_ret2
  exact Dg.no hk.out rfl h2.out
theorem putC_same {c : Cd} (hb : c.begun = true) : putC c c.v = { c with begun := true, v := c.v } := by
 unfold putC; rw [if_neg (begun_not hb), if_pos (Nat.xor_self _), <- hb]
set_option maxRecDepth 100000 in
set_option maxHeartbeats 3200000 in
theorem gd_short (S : Nat -> Prop) (q p : Nat) (c : Cd) (K : List Bool) (w : World) (h : PR q c p K w S) (hb : c.begun = true) (o : Option (Nat × Nat)) (ho : getR c K = o) (hK : K = [] \/ (∃ R, K = false :: R) \/ K = [true]) :
  Calls Tryz.prog 249 #[.pointer (some ⟨q, 0, none⟩), .pointer (some ⟨p, 0, none⟩)] w (Dg q c p K S w o) := by
 have H := ObjStep.refl (I := PR q c p K) h
 obtain ⟨k0, k1, k2, k3, -⟩ := prCells H
 rw [hb] at k2
 rcases hK with rfl | ⟨R, rfl⟩ | rfl
 ·have hk : Hid (o = none) := Lib.hid (ho.symm.trans (get_nil c))
  have HG := Lib.hid (prNo H 1 (by simp))
  clear h ho H
  go_enter Tryz.func249, Tryz.ntmps249
  go_wp2_with fail
  refine HG.out.mono ?_
  rintro e w2 ⟨rfl, h2⟩
  replace h2 := Lib.hid (toX h2)
  clear HG
  go_wp2_with fail
  go_ret2
  exact Dg.no hk.out rfl h2.out
 ·have hk : Hid (o = some (c.v, 1)) := Lib.hid (ho.symm.trans (getR_same hb R))
  have hps := Lib.hid (putC_same hb)
  have HG := Lib.hid (prGet (x := 0) (K' := R) H 1 (by omega) (by simp) (by rfl) (by rfl))
  clear h ho H
  go_enter Tryz.func249, Tryz.ntmps249
  go_wp2_with fail
  refine HG.out.mono ?_
  rintro e w2 ⟨rfl, h2⟩
  replace h2 := Lib.hid h2
  clear HG
  go_wp2_with fail
  go_ret2
  exact Dg.yes (d := 0) hk.out (by decide) (Nat.xor_zero _) rfl h2.out hps.out.symm rfl
 ·have hk : Hid (o = none) := Lib.hid (ho.symm.trans (getR_one hb))
  have HG := Lib.hid (prGet (x := 1) (K' := []) H 1 (by omega) (by simp) (by rfl) (by rfl))
  clear h ho H
  go_enter Tryz.func249, Tryz.ntmps249
  go_wp2_with fail
  refine HG.out.mono ?_
  rintro e w2 ⟨rfl, h2⟩
  have HG2 := Lib.hid (prNo h2 1 (by simp))
  clear HG h2
  go_wp2_with fail
  refine HG2.out.mono ?_
  rintro e w3 ⟨rfl, h3⟩
  replace h3 := Lib.hid (toX h3)
  clear HG2
  go_wp2_with fail
  go_ret2
  exact Dg.no hk.out rfl h3.out
set_option maxRecDepth 100000 in
set_option maxHeartbeats 3200000 in
theorem gd_within (S : Nat -> Prop) (q p : Nat) (c : Cd) (R : List Bool) (w : World) (h : PR q c p (true :: false :: R) w S) (hok : c.Ok) (hb : c.begun = true) (o : Option (Nat × Nat)) (ho : getR c (true :: false :: R) = o) :
  Calls Tryz.prog 249 #[.pointer (some ⟨q, 0, none⟩), .pointer (some ⟨p, 0, none⟩)] w (Dg q c p (true :: false :: R) S w o) := by
 have H := ObjStep.refl (I := PR q c p (true :: false :: R)) h
 obtain ⟨k0, k1, k2, k3, -⟩ := prCells H
 rw [hb] at k2
 have HG := Lib.hid (prGet (x := 1) (K' := false :: R) H 1 (by omega) (by simp) (by rfl) (by rfl))
 have hwlt := wlt hok
 have HB : Hid (∀ w1, ObjStep (PR q c p R) S w w1 -> ∃ (x : Int) (b : Bool), Calls Tryz.prog 261 #[win (wl c) (wt c), .pointer (some ⟨p, 0, none⟩)] w1 fun e w' => e = .returned (.tuple #[.int .u64 x, .bool b]) /\ Dg q c p (true :: false :: R) S w o e w') := Lib.hid fun w1 h1 => by
  obtain ⟨n, hn⟩ : ∃ n, n = 64 - wl c - wt c := ⟨_, rfl⟩
  by_cases hle : n <= R.length
  ·by_cases h0 : numOf (R.take n) = 0
   ·have hk : o = none := by
     rw [<- ho]
     cases hw : c.win with
     | false => exact getR_none hb hw R
     | true =>
      have e1 : wl c = c.lead := by unfold wl; rw [hw]; rfl
      have e2 : wt c = c.tail := by unfold wt; rw [hw]; rfl
      rw [e1, e2] at hn
      rw [getR_within hok hb hw R n hn, if_neg (fun hh => hh.2 h0)]
    refine ⟨((0 : Nat) : Int), false, (prBetween h1 (wl c) (wt c) n 0 0 hwlt hn hle h0 (by simp) (b := false) (by simp) rfl).mono ?_⟩
    rintro e w' ⟨rfl, hs⟩
    exact ⟨rfl, Dg.no hk rfl (toX hs)⟩
   ·cases hw : c.win with
    | false =>
     exfalso; apply h0
     have : n = 0 := by rw [hn]; unfold wl wt; rw [hw]; rfl
     rw [this]; rfl
    | true =>
     have e1 : wl c = c.lead := by unfold wl; rw [hw]; rfl
     have e2 : wt c = c.tail := by unfold wt; rw [hw]; rfl
     have hn2 := hn
     rw [e1, e2] at hn2
     have hk : o = some (c.v ^^^ (numOf (R.take n) * 2 ^ c.tail), n + 2) := by
      rw [<- ho, getR_within hok hb hw R n hn2, if_pos ⟨hle, h0⟩]
     have hm : numOf (R.take n) * 2 ^ c.tail < 2 ^ (64 - c.lead) := mid_of _ (by rw [List.length_take, Nat.min_eq_left hle]) hn2 (by have := hok.sum; omega)
     have hm64 : numOf (R.take n) * 2 ^ c.tail < 2 ^ 64 := Nat.lt_of_lt_of_le hm (Nat.pow_le_pow_right (by decide) (by omega))
     have hd0 : numOf (R.take n) * 2 ^ c.tail ≠ 0 := Nat.ne_of_gt (Nat.mul_pos (Nat.pos_of_ne_zero h0) (Nat.two_pow_pos _))
     have hx : ((c.v ^^^ (numOf (R.take n) * 2 ^ c.tail)) ^^^ c.v) = numOf (R.take n) * 2 ^ c.tail := xor_back2 _ _
     refine ⟨((numOf (R.take n) * 2 ^ c.tail : Nat) : Int), true, (prBetween h1 (wl c) (wt c) n _ (numOf (R.take n) * 2 ^ c.tail) hwlt hn hle rfl (by rw [e2, Nat.mod_eq_of_lt hm64]) (b := true) (by simp [h0]) rfl).mono ?_⟩
     rintro e w' ⟨rfl, hs⟩
     refine ⟨rfl, Dg.yes hk hm64 rfl rfl hs ?_ rfl⟩
     unfold putC
     rw [if_neg (begun_not hb), hx, if_neg hd0, if_pos ⟨hw, lead_ge' hok.lead hm, tail_ge hm64 hd0 (Nat.dvd_mul_left _ _)⟩, <- hb]
  ·have hk : o = none := by
    rw [<- ho]
    cases hw : c.win with
    | false => exact getR_none hb hw R
    | true =>
     have e1 : wl c = c.lead := by unfold wl; rw [hw]; rfl
     have e2 : wt c = c.tail := by unfold wt; rw [hw]; rfl
     rw [e1, e2] at hn
     rw [getR_within hok hb hw R n hn, if_neg (fun hh => hle hh.1)]
   refine ⟨0, false, (prBetweenNo h1 (wl c) (wt c) n hwlt hn hle).mono ?_⟩
   rintro e w' ⟨rfl, hs⟩
   exact ⟨rfl, Dg.no hk rfl (toX hs)⟩
 clear h ho H hok hwlt
 go_enter Tryz.func249, Tryz.ntmps249
 go_wp2_with fail
 refine HG.out.mono ?_
 rintro e w2 ⟨rfl, h2⟩
 have HG2 := Lib.hid (prGet (x := 0) (K' := R) h2 1 (by omega) (by simp) (by rfl) (by rfl))
 clear HG h2 k0 k1 k2 k3
 go_wp2_with fail
 refine HG2.out.mono ?_
 rintro e w3 ⟨rfl, h3⟩
 obtain ⟨n0, n1, n2, n3, -⟩ := prCells h3
 obtain ⟨x, b, HC⟩ := HB.out w3 h3
 replace HC := Lib.hid HC
 clear HG2 HB h3
 go_wp2_with fail
 refine HC.out.mono ?_
 rintro e w4 ⟨rfl, h4⟩
 replace h4 := Lib.hid h4
 clear HC
 go_wp2_with fail
 go_ret2
 exact h4.out
set_option maxRecDepth 100000 in
set_option maxHeartbeats 3200000 in
theorem gd_new (S : Nat -> Prop) (q p : Nat) (c : Cd) (R : List Bool) (w : World) (h : PR q c p (true :: true :: R) w S) (hok : c.Ok) (hT : Tab w) (hG : ¬ S 3) (hb : c.begun = true) (o : Option (Nat × Nat)) (ho : getR c (true :: true :: R) = o) :
  Calls Tryz.prog 249 #[.pointer (some ⟨q, 0, none⟩), .pointer (some ⟨p, 0, none⟩)] w (Dg q c p (true :: true :: R) S w o) := by
 have H := ObjStep.refl (I := PR q c p (true :: true :: R)) h
 obtain ⟨k0, k1, k2, k3, -⟩ := prCells H
 rw [hb] at k2
 have HG := Lib.hid (prGet (x := 1) (K' := true :: R) H 1 (by omega) (by simp) (by rfl) (by rfl))
 have HB : Hid (∀ w1, ObjStep (PR q c p R) S w w1 -> ∃ (x : Int) (b : Bool), Calls Tryz.prog 262 #[.pointer (some ⟨q, 0, none⟩), .pointer (some ⟨p, 0, none⟩)] w1 fun e w' => e = .returned (.tuple #[.int .u64 x, .bool b]) /\ Dg q c p (true :: true :: R) S w o e w') := Lib.hid fun w1 h1 => by
  obtain ⟨P, hP⟩ : ∃ P, numOf (R.take 5) = P := ⟨_, rfl⟩
  obtain ⟨Q, hQ⟩ : ∃ Q, numOf ((R.drop 5).take 6) = Q := ⟨_, rfl⟩
  obtain ⟨x, hx⟩ : ∃ x, numOf ((R.drop 11).take (Q + 1)) = x := ⟨_, rfl⟩
  obtain ⟨d, hd⟩ : ∃ d, d = x * 2 ^ (63 - P - Q) := ⟨_, rfl⟩
  have eg := getR_new hok hb R P Q x d hP hQ hx hd
  rw [ho] at eg
  have hT1 := hT.upon h1.upon hG
  obtain ⟨⟨S', hI, h2, h3⟩, hu⟩ := h1
  have hG' : ¬ S' 3 := fun hs => (h3 _ hs).elim hG fun hz => Nat.lt_irrefl _ (Nat.lt_of_lt_of_le hT.lt hz)
  have go : ∀ (J : Ob.Rel) (z : World), ObjStep J S' w1 z -> ObjStep J S w z := fun J z k => ObjStep.then (I := fun w T => w = w1 /\ T = S') ⟨⟨S', ⟨rfl, rfl⟩, h2, h3⟩, hu⟩ (fun T hT => by rw [hT.2]; exact k)
  have no : o = none -> ∀ e w', No q c p S' w1 e w' -> e = .returned (.tuple #[.int .u64 0, .bool false]) /\ Dg q c p (true :: true :: R) S w o e w' := fun hk e w' ⟨he, hs⟩ => ⟨he, Dg.no hk he (go _ _ hs)⟩
  by_cases h11 : 11 <= R.length /\ P + Q + 1 <= 64
  ·by_cases hle : Q + 1 <= (R.drop 11).length
   ·by_cases hx0 : x = 0
    ·have hk : o = none := by rw [eg, if_neg (fun hh => hh.2.2.2.1 hx0)]
     exact ⟨0, false, (out_zero S' q p c R w1 hI h11.1 P Q hP hQ h11.2 (.inr (by rw [hx, hx0]))).mono (no hk)⟩
    ·by_cases hc : Xr.lead d = P /\ Xr.tail d = 63 - P - Q /\ ¬ (c.win = true /\ c.lead <= P /\ c.tail <= 63 - P - Q)
     ·have hc2 : Xr.lead d = P /\ Xr.tail d = 63 - P - Q /\ ¬ (c.win = true /\ c.lead <= Xr.lead d /\ c.tail <= Xr.tail d) := ⟨hc.1, hc.2.1, by rw [hc.1, hc.2.1]; exact hc.2.2⟩
      have hk : o = some (c.v ^^^ d, 14 + Q) := by rw [eg, if_pos ⟨h11.1, h11.2, hle, hx0, hc2⟩]
      have hd0 : d ≠ 0 := by rw [hd]; exact Nat.ne_of_gt (Nat.mul_pos (Nat.pos_of_ne_zero hx0) (Nat.two_pow_pos (63 - P - Q)))
      have hd64 : d < 18446744073709551616 := by
       have h1 := mid_of (l := P) (t := 63 - P - Q) (n := Q + 1) ((R.drop 11).take (Q + 1)) (by rw [List.length_take, Nat.min_eq_left hle]) (by omega) (by omega)
       rw [hx, <- hd] at h1
       exact Nat.lt_of_lt_of_le h1 (show 2 ^ (64 - P) <= 2 ^ 64 from Nat.pow_le_pow_right (by decide) (by omega))
      refine ⟨(d : Int), true, (out_some S' q p c R w1 hI hok hT1 hG' h11.1 P Q x d hP hQ h11.2 hle hx hx0 hd True ⟨fun _ => hc, fun _ => trivial⟩).mono ?_⟩
      rintro e w' (⟨-, rfl, hs⟩ | ⟨hn, -⟩)
      ·refine ⟨rfl, Dg.yes hk hd64 rfl rfl (c' := { c with win := true, lead := P, tail := 63 - P - Q }) ?_ ?_ rfl⟩
       ·have := go _ _ hs
        rw [show (true :: true :: R).drop (14 + Q) = R.drop (12 + Q) by rw [show 14 + Q = (12 + Q) + 2 by omega]; rfl]
        exact this
       ·unfold putC
        rw [if_neg (begun_not hb), xor_back2, if_neg hd0, if_neg hc2.2.2, hc2.1, hc2.2.1]
      ·exact absurd trivial hn
     ·have hk : o = none := by
       rw [eg, if_neg]
       rintro ⟨-, -, -, -, g1, g2, g3⟩
       exact hc ⟨g1, g2, by rw [g1, g2] at g3; exact g3⟩
      refine ⟨0, false, (out_some S' q p c R w1 hI hok hT1 hG' h11.1 P Q x d hP hQ h11.2 hle hx hx0 hd False ⟨fun h => h.elim, fun h => hc h⟩).mono ?_⟩
      rintro e w' (⟨hn, -⟩ | ⟨-, hs⟩)
      ·exact hn.elim
      ·exact no hk e w' hs
   ·have hk : o = none := by rw [eg, if_neg (fun hh => hle hh.2.2.1)]
    exact ⟨0, false, (out_zero S' q p c R w1 hI h11.1 P Q hP hQ h11.2 (.inl hle)).mono (no hk)⟩
  ·have hk : o = none := by rw [eg, if_neg (fun hh => h11 ⟨hh.1, hh.2.1⟩)]
   exact ⟨0, false, (out_none S' q p c R w1 hI (by rw [hP, hQ]; exact h11)).mono (no hk)⟩
 clear h ho H hok hT hG
 go_enter Tryz.func249, Tryz.ntmps249
 go_wp2_with fail
 refine HG.out.mono ?_
 rintro e w2 ⟨rfl, h2⟩
 have HG2 := Lib.hid (prGet (x := 1) (K' := R) h2 1 (by omega) (by simp) (by rfl) (by rfl))
 clear HG h2 k0 k1 k2 k3
 go_wp2_with fail
 refine HG2.out.mono ?_
 rintro e w3 ⟨rfl, h3⟩
 obtain ⟨x, b, HC⟩ := HB.out w3 h3
 replace HC := Lib.hid HC
 clear HG2 HB h3
 go_wp2_with fail
 refine HC.out.mono ?_
 rintro e w4 ⟨rfl, h4⟩
 replace h4 := Lib.hid h4
 clear HC
 go_wp2_with fail
 go_ret2
 exact h4.out
theorem gd_any (S : Nat -> Prop) (q p : Nat) (c : Cd) (K : List Bool) (w : World) (h : PR q c p K w S) (hok : c.Ok) (hf : c.begun = false -> c.v = 0) (hT : Tab w) (hG : ¬ S 3) :
  Calls Tryz.prog 249 #[.pointer (some ⟨q, 0, none⟩), .pointer (some ⟨p, 0, none⟩)] w (Dg q c p K S w (getR c K)) := by
 by_cases hb : c.begun = false
 ·exact gd_first S q p c K w h hb (hf hb) _ rfl
 ·have hb' : c.begun = true := by simpa using hb
  match K, h with
  | [], h => exact gd_short S q p c _ w h hb' _ rfl (.inl rfl)
  | false :: R, h => exact gd_short S q p c _ w h hb' _ rfl (.inr (.inl ⟨R, rfl⟩))
  | [true], h => exact gd_short S q p c _ w h hb' _ rfl (.inr (.inr rfl))
  | true :: false :: R, h => exact gd_within S q p c R w h hok hb' _ rfl
  | true :: true :: R, h => exact gd_new S q p c R w h hok hT hG hb' _ rfl
def Gp (q : Nat) (c : Cd) (p : Nat) (K : List Bool) (S : Nat -> Prop) (w : World) (o : Option (Nat × Nat)) (e : Ending) (w' : World) : Prop :=
 match o with
 | some (v, n) => e = .returned (.tuple #[.int .u64 (v : Int), .bool true]) /\ ObjStep (PR q (putC c v) p (K.drop n)) S w w'
 | none => e = .returned (.tuple #[.int .u64 0, .bool false]) /\ ObjStep (PX q c p) S w w'
set_option maxRecDepth 100000 in
set_option maxHeartbeats 3200000 in
theorem cdGet_any (S : Nat -> Prop) (q p : Nat) (c : Cd) (K : List Bool) (w : World) (h : PR q c p K w S) (hok : c.Ok) (hf : c.begun = false -> c.v = 0) (hT : Tab w) (hG : ¬ S 3) :
  Calls Tryz.prog 228 #[.pointer (some ⟨q, 0, none⟩), .pointer (some ⟨p, 0, none⟩)] w (Gp q c p K S w (getR c K)) := by
 have HD := gd_any S q p c K w h hok hf hT hG
 have hc : c.v < 18446744073709551616 := hok.v
 clear h hok hf hT hG
 cases hg : getR c K with
 | none =>
  rw [hg] at HD
  replace HD := Lib.hid HD
  clear hg
  go_enter Tryz.func228, Tryz.ntmps228
  go_wp2_with fail
  refine HD.out.mono ?_
  rintro e w2 ⟨x, rfl, h2⟩
  replace h2 := Lib.hid h2
  clear HD
  go_wp2_with fail
  go_ret2
  exact ⟨rfl, h2.out⟩
 | some y =>
  obtain ⟨v, n⟩ := y
  rw [hg] at HD
  replace HD := Lib.hid HD
  clear hg
  go_enter Tryz.func228, Tryz.ntmps228
  go_wp2_with fail
  refine HD.out.mono ?_
  rintro e w2 ⟨d, c', hd, hv, rfl, h2, hp, hv2⟩
  obtain ⟨m0, m1, m2, m3, mf⟩ := prCells h2
  have hx := xor_int c.v d hc hd
  rw [hv, <- hv2] at hx
  have f2 := mf 2
  have h3 := prSet (o := 2) (v := .bool true) (c' := { c' with begun := true }) h2 rfl
  obtain ⟨n0, n1, n2, n3, nf⟩ := prCells h3
  have f3 := nf 3
  have h4 := prSet (o := 3) (v := .int .u64 (v : Int)) (c' := { c' with begun := true, v := v }) h3 rfl
  obtain ⟨l0, l1, l2, l3, -⟩ := prCells h4
  rw [hp] at h4
  replace h4 := Lib.hid h4
  clear h2 h3 mf nf hp hv hv2 HD
  go_wp2_with fail
  go_ret2
  exact ⟨rfl, h4.out⟩
end Xr
end
section
open Go.RowKit Go.Sort
namespace Xr
open Bit Dsk Ob
theorem tab_of_head {W : World} {rest : List (String × DataW Unit)} (h : laidMet Tryz.prog (("math/bits.deBruijn64tab", Rows.laid_math_bits_deBruijn64tab) :: rest) W) : Tab W := by
 have hg : Tryz.prog.globalNamed "math/bits.deBruijn64tab" = some 3 := by kernel_rfl
 have hT : Lib.TabIs Tryz.prog W "math/bits.deBruijn64tab" .u8 (Lib.deBruijn64tab.map Int.ofNat) :=
  Lib.tabIs_of_head (t := 342) (e := 5) (n := 64) hg (by kernel_rfl) (by kernel_rfl) (by kernel_rfl) (by kernel_rfl) (by kernel_rfl) h
 intro j hj
 have h0 := hT.cell hg j (by simpa using hj)
 rw [h0]
 congr 2
 rw [List.getD_eq_getElem?_getD, List.getD_eq_getElem?_getD, List.getElem?_map, List.getElem?_eq_getElem hj]
 rfl
theorem Tab.own {w0 w : World} (h : Tab w0) (hb : Below w0.heap.size w0 w) : Tab w := h.upon (Upon.of_below hb (fun _ => False)) fun f => f
theorem notG {w0 : World} (h : Tab w0) {A : Nat -> Prop} (hA : ∀ b, A b -> w0.heap.size <= b) : ¬ A 3 := fun ha => Nat.lt_irrefl _ (Nat.lt_of_lt_of_le h.lt (hA _ ha))
theorem putC_begun (c : Cd) (v : Nat) : (putC c v).begun = true := by
 unfold putC
 by_cases h : c.begun = false
 ·rw [if_pos h]
 ·rw [if_neg h]
  split
  ·simpa using h
  ·split
   ·simpa using h
   ·rfl
theorem CMade.beside {I : Ob.Rel} (hI : Thing I) {w0 w : World} {e : Ending} {w' : World} (H : Own I w0 w) (h : CMade w e w') : ∃ q, e = .returned (.pointer (some ⟨q, 0, none⟩)) /\ Own (Tens I (IsCd q newC)) w0 w' := by
 obtain ⟨q, h1, h2, h3, h4⟩ := h
 exact ⟨q, h1, Own.new hI H h2 (fun b hb => by rw [hb]; exact h3) h4⟩
end Xr
end
end
end Go.Proofs.YtgmnhodajngchaaGreatDoor
