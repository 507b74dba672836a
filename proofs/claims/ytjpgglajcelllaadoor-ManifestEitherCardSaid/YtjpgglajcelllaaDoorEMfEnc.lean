/- The program's manifests (layer 17): dataOf, Encode. -/
import Derived.Test.YtjpgglajcelllaaDoorEMfChk
import Derived.Test.YtjpgglajcelllaaDoorEMfRefE
import Derived.Test.YtjpgglajcelllaaDoorEBkBld
set_option maxRecDepth 100000
namespace Go.Proofs.YtjpgglajcelllaaDoor
open Go.RowKit
namespace Mf
open Bit Dsk Ob Dig
set_option linter.unusedVariables false
theorem pnum (n : Nat) (h : n < 18446744073709551616) (w : World) : Calls Tryd.prog 69 #[.int .u64 (n : Int)] w fun e w' => e = .returned (.string (Mt.numA n)) ∧ Below w.heap.size w w' := by
  have := Dig.num_any (n : Int) (by omega) (by omega) w
  rw [Int.toNat_natCast] at this
  exact this
theorem psgn (x : Int) (h0 : -9223372036854775808 ≤ x) (h1 : x ≤ 9223372036854775807) (w : World) : Calls Tryd.prog 70 #[.int .i64 x] w fun e w' => e = .returned (.string (Mt.numA (zig x))) ∧ Below w.heap.size w w' := Dig.signed_any x h0 h1 w
theorem pputOk (s : ByteArray) (h : s.size ≤ 65536) (w : World) (ht : Crc.Tab w) :
    Calls Tryd.prog 28 #[.agg #[.int .i64 6, .string s]] w fun e w' => e = .returned (.tuple #[.string (Frm.putA 6 s), .int .i64 0]) ∧ Below w.heap.size w w' := Frm.put_ok 6 s (by decide) (by decide) h w ht
/-- The builder at p holds l; the box at g is as it was; all else is new. -/
structure Wri (w : World) (T : TypeId) (g p : Nat) (a b c d e f : Value) (l : List UInt8) (wr : World) : Prop where
  bld : ∃ r, Bk.IsB (g + 1) p r l wr
  box : Box6 T g a b c d e f wr
  new : New0 w wr
  lo : w.heap.size ≤ g
section
variable {w wr w' : World} {T : TypeId} {g p : Nat} {a b c d e f : Value} {l : List UInt8}
theorem Wri.more (h : Wri w T g p a b c d e f l wr) (hu : New0 wr w') : Wri w T g p a b c d e f l w' :=
  let ⟨r, hr⟩ := h.bld
  ⟨⟨r, hr.new hu⟩, h.box.new hu, h.new.trans hu, h.lo⟩
theorem Wri.own {r : Option Nat} (h : Bk.IsB (g + 1) p r l wr) {k : Nat} (hk : Bk.SbOwn p r k) : g < k := by
  rcases hk with rfl | hk
  · exact h.lo
  · exact h.buf k hk.symm
theorem Wri.write (h : Wri w T g p a b c d e f l wr) (s : ByteArray) (hlen : l.length + s.size ≤ 140737488355328) :
    Calls Tryd.prog 65 #[.pointer (some ⟨p, 0, none⟩), .string s] wr fun e1 w' => e1 = .returned (.tuple #[.int .i64 s.size, .nilIface]) ∧ Wri w T g p a b c d e f (l ++ s.data.toList) w' := by
  obtain ⟨r, hr⟩ := h.bld
  refine (Bk.bwrite_any (g + 1) p r l s wr hr hlen h.box.lt).mono ?_
  rintro e1 w' ⟨he, ⟨r', h1, -⟩, h2⟩
  refine ⟨he, ⟨r', h1⟩, h.box.upon h2 fun hg => Nat.lt_irrefl _ (Wri.own hr hg), h.new.trans' h2 fun i hi hg => ?_, h.lo⟩
  have := Wri.own hr hg
  have := h.lo
  omega
theorem Wri.string (h : Wri w T g p a b c d e f l wr) :
    Calls Tryd.prog 71 #[.pointer (some ⟨p, 0, none⟩)] wr fun e1 w' => e1 = .returned (.string (bts l)) ∧ Wri w T g p a b c d e f l w' := by
  obtain ⟨r, hr⟩ := h.bld
  refine (Bk.bstring_any (g + 1) p r l wr hr).mono ?_
  rintro e1 w' ⟨he, h1, h2⟩
  refine ⟨he, ⟨r, h1⟩, h.box.upon h2 fun hg => Nat.lt_irrefl _ (Wri.own hr hg), h.new.trans' h2 fun i hi hg => ?_, h.lo⟩
  have := Wri.own hr hg
  have := h.lo
  omega
end
theorem wri_start (w : World) (T : TypeId) (a b c d e f : Value) : Wri w T w.heap.size (w.heap.size + 1) a b c d e f [] ((w.alloc (.cells #[a, b, c, d, e, f] T (0, 0))).alloc (.cells #[.pointer none, .slice none 0 0] 100 (0, 0))) := by
  have h1 := box6 T w a b c d e f
  have hz : (w.alloc (.cells #[a, b, c, d, e, f] T (0, 0))).heap.size = w.heap.size + 1 := by simp
  have h2 := Bk.IsB.start (w.alloc (.cells #[a, b, c, d, e, f] T (0, 0)))
  rw [hz] at h2
  exact ⟨⟨none, h2⟩, h1.new ((Upon.refl _ _).alloc _), ((Upon.refl _ _).alloc _).alloc _, Nat.le_refl _⟩
/-- The first numbers. -/
def pr3 (a b c : Nat) : Nat → List UInt8
  | 0 => []
  | 1 => [] ++ numL a
  | 2 => [] ++ numL a ++ numL b
  | _ => [] ++ numL a ++ numL b ++ numL c
def pr2 (l : List UInt8) (a b : Nat) : Nat → List UInt8
  | 0 => l
  | 1 => l ++ numL a
  | _ => l ++ numL a ++ numL b
theorem pr3_le (a b c : Nat) : ∀ i, (pr3 a b c i).length ≤ 27
  | 0 => by simp [pr3]
  | 1 => by have := numL_le a; simp only [pr3, List.length_append, List.length_nil]; omega
  | 2 => by have := numL_le a; have := numL_le b; simp only [pr3, List.length_append, List.length_nil]; omega
  | i + 3 => by have := numL_le a; have := numL_le b; have := numL_le c; simp only [pr3, List.length_append, List.length_nil]; omega
theorem pr2_le (l : List UInt8) (a b : Nat) : ∀ i, (pr2 l a b i).length ≤ l.length + 18
  | 0 => by simp [pr2]
  | 1 => by have := numL_le a; simp only [pr2, List.length_append]; omega
  | i + 2 => by have := numL_le a; have := numL_le b; simp only [pr2, List.length_append]; omega
theorem three_at (a b c : Int) (W : World) :
    (Instr.index 118 (.agg #[.int .i64 a, .int .i64 b, .int .i64 c]) (.int .i64 0)).run Tryd.prog W = .ok (.int .i64 a) W ∧
    (Instr.index 118 (.agg #[.int .i64 a, .int .i64 b, .int .i64 c]) (.int .i64 1)).run Tryd.prog W = .ok (.int .i64 b) W ∧
    (Instr.index 118 (.agg #[.int .i64 a, .int .i64 b, .int .i64 c]) (.int .i64 2)).run Tryd.prog W = .ok (.int .i64 c) W := ⟨by kernel_rfl, by kernel_rfl, by kernel_rfl⟩
theorem two_at (a b : Int) (W : World) :
    (Instr.index 119 (.agg #[.int .i64 a, .int .i64 b]) (.int .i64 0)).run Tryd.prog W = .ok (.int .i64 a) W ∧
    (Instr.index 119 (.agg #[.int .i64 a, .int .i64 b]) (.int .i64 1)).run Tryd.prog W = .ok (.int .i64 b) W := ⟨by kernel_rfl, by kernel_rfl⟩
/-- The names so far. -/
def soN (l0 : List UInt8) (l : List ByteArray) (j : Nat) : List UInt8 := l0 ++ (l.take j).flatMap nmB
theorem soN_step {l0 : List UInt8} {l : List ByteArray} {j : Nat} (hj : j < l.length) : soN l0 l (j + 1) = soN l0 l j ++ (textA l[j]).data.toList := by
  unfold soN
  rw [textA_list, List.take_succ_eq_append_getElem hj, List.flatMap_append]
  simp [nmB]
theorem soN_last {l0 : List UInt8} {l : List ByteArray} {j : Nat} (hj : ¬ j < l.length) : soN l0 l j = l0 ++ l.flatMap nmB := by unfold soN; rw [List.take_of_length_le (by omega)]
theorem soN_le {l0 : List UInt8} {l : List ByteArray} {j : Nat} (h : ∀ b ∈ l, b.size ≤ 32) (hl : l.length ≤ 16) : (soN l0 l j).length ≤ l0.length + 656 := by
  have h1 := flat_le (l := l.take j) fun b hb => h b (List.mem_of_mem_take hb)
  have h2 : (l.take j).length ≤ 16 := by rw [List.length_take]; omega
  unfold soN
  rw [List.length_append]
  omega
theorem data_is {E B P C : Nat} {K : Int} {l : List ByteArray} : soN (pr2 (pr3 E B P 3 ++ numL (zig K)) C l.length 2) l l.length = dataL ⟨(E : Int), (B : Int), (P : Int), K, (C : Int), l⟩ := by
  rw [soN_last (Nat.lt_irrefl _)]
  simp [pr2, pr3, dataL, Int.toNat_natCast]
set_option maxHeartbeats 12800000 in
theorem pdata_any (w : World) (S : Nat → Prop) (E B P C : Nat) (K : Int) (l : List ByteArray) (A : Option Addr) (c : Nat) (hv : NView w S (.slice A l.length c) l) (h1 : E ≤ 99999999) (h2 : B ≤ 99999999) (h3 : P ≤ 99999999) (h4 : C ≤ 99999999) (hK : -9223372036854775808 ≤ K ∧ K ≤ 9223372036854775807) (hl : l.length ≤ 16) (hs : ∀ b ∈ l, b.size ≤ 32) :
    Calls Tryd.prog 29 #[.agg #[.int .i64 (E : Int), .int .i64 (B : Int), .int .i64 (P : Int), .int .i64 K, .int .i64 (C : Int), .slice A l.length c]] w fun e w' => e = .returned (.string (bts (dataL ⟨(E : Int), (B : Int), (P : Int), K, (C : Int), l⟩))) ∧ New0 w w' := by
  obtain ⟨wb, hwb⟩ : ∃ wb, (w.alloc (.cells #[.int .i64 (E : Int), .int .i64 (B : Int), .int .i64 (P : Int), .int .i64 K, .int .i64 (C : Int), .slice A l.length c] 26 (0, 0))).alloc (.cells #[.pointer none, .slice none 0 0] 100 (0, 0)) = wb := ⟨_, rfl⟩
  have HW := wri_start w 26 (.int .i64 (E : Int)) (.int .i64 (B : Int)) (.int .i64 (P : Int)) (.int .i64 K) (.int .i64 (C : Int)) (.slice A l.length c)
  rw [hwb] at HW
  obtain ⟨WR, hWR⟩ : ∃ WR : List UInt8 → World → Prop, WR = Wri w 26 w.heap.size (w.heap.size + 1) (.int .i64 (E : Int)) (.int .i64 (B : Int)) (.int .i64 (P : Int)) (.int .i64 K) (.int .i64 (C : Int)) (.slice A l.length c) := ⟨_, rfl⟩
  have hbox : Hid (∀ l0 wr, WR l0 wr → Box6 26 w.heap.size (.int .i64 (E : Int)) (.int .i64 (B : Int)) (.int .i64 (P : Int)) (.int .i64 K) (.int .i64 (C : Int)) (.slice A l.length c) wr) := Lib.hid (by rw [hWR]; exact fun l0 wr h => h.box)
  have hmore : Hid (∀ l0 wr w', WR l0 wr → New0 wr w' → WR l0 w') := Lib.hid (by rw [hWR]; exact fun l0 wr w' h hu => h.more hu)
  have hnew : Hid (∀ l0 wr, WR l0 wr → New0 w wr) := Lib.hid (by rw [hWR]; exact fun l0 wr h => h.new)
  have hwrite : Hid (∀ l0 wr (s : ByteArray), WR l0 wr → l0.length + s.size ≤ 140737488355328 → Calls Tryd.prog 65 #[.pointer (some ⟨w.heap.size + 1, 0, none⟩), .string s] wr fun e1 w' => e1 = .returned (.tuple #[.int .i64 s.size, .nilIface]) ∧ WR (l0 ++ s.data.toList) w') := Lib.hid (by rw [hWR]; exact fun l0 wr s h hz => h.write s hz)
  have hstr : Hid (∀ l0 wr, WR l0 wr → Calls Tryd.prog 71 #[.pointer (some ⟨w.heap.size + 1, 0, none⟩)] wr fun e1 w' => e1 = .returned (.string (bts l0)) ∧ WR l0 w') := Lib.hid (by rw [hWR]; exact fun l0 wr h => h.string)
  rw [← hWR] at HW
  clear hWR
  have hdata := Lib.hid (data_is (E := E) (B := B) (P := P) (C := C) (K := K) (l := l))
  replace HW := Lib.hid HW
  replace hwb := Lib.hid hwb
  replace hv := Lib.hid hv
  replace hs := Lib.hid hs
  obtain ⟨k0, k1, k2, k3, k4, k5⟩ := (hbox.out _ _ HW.out).cells
  have HN := Lib.hid (fun n (h : n < 18446744073709551616) w => pnum n h w)
  have HS := Lib.hid (fun w => psgn K hK.1 hK.2 w)
  have wr1 : IntKind.u64.wrap (E : Int) = (E : Int) := by rw [IntKind.wrap_u64]; omega
  have wr2 : IntKind.u64.wrap (B : Int) = (B : Int) := by rw [IntKind.wrap_u64]; omega
  have wr3 : IntKind.u64.wrap (P : Int) = (P : Int) := by rw [IntKind.wrap_u64]; omega
  have wr4 : IntKind.u64.wrap (C : Int) = (C : Int) := by rw [IntKind.wrap_u64]; omega
  have wr5 : IntKind.u64.wrap (l.length : Int) = (l.length : Int) := by rw [IntKind.wrap_u64]; omega
  have q0 := fun W => (three_at (E : Int) (B : Int) (P : Int) W).1
  have q1 := fun W => (three_at (E : Int) (B : Int) (P : Int) W).2.1
  have q2 := fun W => (three_at (E : Int) (B : Int) (P : Int) W).2.2
  have r0 := fun W => (two_at (C : Int) (l.length : Int) W).1
  have r1 := fun W => (two_at (C : Int) (l.length : Int) W).2
  go_enter Tryd.func29, Tryd.ntmps29
  go_wp2_with fail
  rw [hwb.out]
  go_wp2_with fail
  clear k0 k1 k2 k3 k4 k5 hwb
  go_loopw [17] (fun ov wr => ∃ i : Nat, ov = .int .i64 (i : Int) ∧ i ≤ 3 ∧ Hid (WR (pr3 E B P i) wr)) (fun ov _ => 3 - (intOf ov).toNat)
  case atStart => exact ⟨0, rfl, by omega, HW⟩
  case round =>
    clear HW
    obtain ⟨i, rfl, hi, hw⟩ := hrel
    rcases (show i = 0 ∨ i = 1 ∨ i = 2 ∨ i = 3 by omega) with rfl | rfl | rfl | rfl
    · have HN1 := Lib.hid (fun w => HN.out E (by omega) w)
      have zn := Mt.numA_few E
      have zl : (pr3 E B P 0).length ≤ 100 := by have := pr3_le E B P 0; omega
      have hst : Hid (pr3 E B P 0 ++ (Mt.numA E).data.toList = pr3 E B P 1) := Lib.hid rfl
      obtain ⟨l0, hl0⟩ : ∃ l0, pr3 E B P 0 = l0 := ⟨_, rfl⟩
      obtain ⟨t, ht⟩ : ∃ t, Mt.numA E = t := ⟨_, rfl⟩
      rw [hl0] at hw zl hst
      rw [ht] at hst zn
      simp only [ht] at HN1
      clear hl0 ht HN HS hv hs hdata
      go_wp2_with fail
      refine (HN1.out _).mono ?_
      rintro e w4 ⟨rfl, hb4⟩
      have h4 := Lib.hid (hmore.out _ _ _ hw.out (newOf hb4))
      clear HN1 hb4 hw
      go_wp2_with fail
      refine (hwrite.out _ _ t h4.out (by omega)).mono ?_
      rintro e w5 ⟨rfl, h5⟩
      rw [hst.out] at h5
      replace h5 := Lib.hid h5
      clear h4 hst
      go_wp2_with fail
      go_roundw
      case rel => exact ⟨1, rfl, by omega, h5⟩
      case measure => simp [intOf]
    · have HN1 := Lib.hid (fun w => HN.out B (by omega) w)
      have zn := Mt.numA_few B
      have zl : (pr3 E B P 1).length ≤ 100 := by have := pr3_le E B P 1; omega
      have hst : Hid (pr3 E B P 1 ++ (Mt.numA B).data.toList = pr3 E B P 2) := Lib.hid rfl
      obtain ⟨l0, hl0⟩ : ∃ l0, pr3 E B P 1 = l0 := ⟨_, rfl⟩
      obtain ⟨t, ht⟩ : ∃ t, Mt.numA B = t := ⟨_, rfl⟩
      rw [hl0] at hw zl hst
      rw [ht] at hst zn
      simp only [ht] at HN1
      clear hl0 ht HN HS hv hs hdata
      go_wp2_with fail
      refine (HN1.out _).mono ?_
      rintro e w4 ⟨rfl, hb4⟩
      have h4 := Lib.hid (hmore.out _ _ _ hw.out (newOf hb4))
      clear HN1 hb4 hw
      go_wp2_with fail
      refine (hwrite.out _ _ t h4.out (by omega)).mono ?_
      rintro e w5 ⟨rfl, h5⟩
      rw [hst.out] at h5
      replace h5 := Lib.hid h5
      clear h4 hst
      go_wp2_with fail
      go_roundw
      case rel => exact ⟨2, rfl, by omega, h5⟩
      case measure => simp [intOf]
    · have HN1 := Lib.hid (fun w => HN.out P (by omega) w)
      have zn := Mt.numA_few P
      have zl : (pr3 E B P 2).length ≤ 100 := by have := pr3_le E B P 2; omega
      have hst : Hid (pr3 E B P 2 ++ (Mt.numA P).data.toList = pr3 E B P 3) := Lib.hid rfl
      obtain ⟨l0, hl0⟩ : ∃ l0, pr3 E B P 2 = l0 := ⟨_, rfl⟩
      obtain ⟨t, ht⟩ : ∃ t, Mt.numA P = t := ⟨_, rfl⟩
      rw [hl0] at hw zl hst
      rw [ht] at hst zn
      simp only [ht] at HN1
      clear hl0 ht HN HS hv hs hdata
      go_wp2_with fail
      refine (HN1.out _).mono ?_
      rintro e w4 ⟨rfl, hb4⟩
      have h4 := Lib.hid (hmore.out _ _ _ hw.out (newOf hb4))
      clear HN1 hb4 hw
      go_wp2_with fail
      refine (hwrite.out _ _ t h4.out (by omega)).mono ?_
      rintro e w5 ⟨rfl, h5⟩
      rw [hst.out] at h5
      replace h5 := Lib.hid h5
      clear h4 hst
      go_wp2_with fail
      go_roundw
      case rel => exact ⟨3, rfl, by omega, h5⟩
      case measure => simp [intOf]
    · clear q0 q1 q2 wr1 wr2 wr3
      obtain ⟨k0, k1, k2, k3, k4, k5⟩ := (hbox.out _ _ hw.out).cells
      have z3 := pr3_le E B P 3
      have zk := Mt.numA_few (zig K)
      have hkl : Hid ((Mt.numA (zig K)).data.toList = numL (zig K)) := Lib.hid rfl
      obtain ⟨t, ht⟩ : ∃ t, Mt.numA (zig K) = t := ⟨_, rfl⟩
      rw [ht] at hkl zk
      simp only [ht] at HS
      obtain ⟨l3, hl3⟩ : ∃ l3, pr3 E B P 3 = l3 := ⟨_, rfl⟩
      rw [hl3] at hw hdata z3
      clear ht hl3
      go_wp2_with fail
      refine (HS.out _).mono ?_
      rintro e w4 ⟨rfl, hb4⟩
      have h4 := Lib.hid (hmore.out _ _ _ hw.out (newOf hb4))
      clear HS hb4 hw k0 k1 k2 k3 k4 k5
      go_wp2_with fail
      refine (hwrite.out _ _ t h4.out (by omega)).mono ?_
      rintro e w5 ⟨rfl, h5⟩
      rw [hkl.out] at h5
      obtain ⟨l4, hl4⟩ : ∃ l4, l3 ++ numL (zig K) = l4 := ⟨_, rfl⟩
      have z4 : l4.length ≤ 40 := by have := numL_le (zig K); rw [← hl4, List.length_append]; omega
      rw [hl4] at h5 hdata
      replace h5 := Lib.hid h5
      clear h4 hkl hl4 z3 zk
      obtain ⟨k0, k1, k2, k3, k4, k5⟩ := (hbox.out _ _ h5.out).cells
      go_wp2_with fail
      clear k0 k1 k2 k3 k4 k5
      go_loopw [35] (fun ov wr => ∃ i : Nat, ov = .int .i64 (i : Int) ∧ i ≤ 2 ∧ Hid (WR (pr2 l4 C l.length i) wr)) (fun ov _ => 2 - (intOf ov).toNat)
      case atStart => exact ⟨0, rfl, by omega, h5⟩
      case round =>
        clear h5
        obtain ⟨i, rfl, hi, hw⟩ := hrel
        rcases (show i = 0 ∨ i = 1 ∨ i = 2 by omega) with rfl | rfl | rfl
        · have HN1 := Lib.hid (fun w => HN.out C (by omega) w)
          have zn := Mt.numA_few C
          have zl : (pr2 l4 C l.length 0).length ≤ 100 := by have := pr2_le l4 C l.length 0; omega
          have hst : Hid (pr2 l4 C l.length 0 ++ (Mt.numA C).data.toList = pr2 l4 C l.length 1) := Lib.hid rfl
          obtain ⟨l0, hl0⟩ : ∃ l0, pr2 l4 C l.length 0 = l0 := ⟨_, rfl⟩
          obtain ⟨t, ht⟩ : ∃ t, Mt.numA C = t := ⟨_, rfl⟩
          rw [hl0] at hw zl hst
          rw [ht] at hst zn
          simp only [ht] at HN1
          clear hl0 ht HN hv hs hdata
          go_wp2_with fail
          refine (HN1.out _).mono ?_
          rintro e w4 ⟨rfl, hb4⟩
          have h4 := Lib.hid (hmore.out _ _ _ hw.out (newOf hb4))
          clear HN1 hb4 hw
          go_wp2_with fail
          refine (hwrite.out _ _ t h4.out (by omega)).mono ?_
          rintro e w5 ⟨rfl, h5⟩
          rw [hst.out] at h5
          replace h5 := Lib.hid h5
          clear h4 hst
          go_wp2_with fail
          go_roundw
          case rel => exact ⟨1, rfl, by omega, h5⟩
          case measure => simp [intOf]
        · have HN1 := Lib.hid (fun w => HN.out l.length (by omega) w)
          have zn := Mt.numA_few l.length
          have zl : (pr2 l4 C l.length 1).length ≤ 100 := by have := pr2_le l4 C l.length 1; omega
          have hst : Hid (pr2 l4 C l.length 1 ++ (Mt.numA l.length).data.toList = pr2 l4 C l.length 2) := Lib.hid rfl
          obtain ⟨l0, hl0⟩ : ∃ l0, pr2 l4 C l.length 1 = l0 := ⟨_, rfl⟩
          obtain ⟨t, ht⟩ : ∃ t, Mt.numA l.length = t := ⟨_, rfl⟩
          rw [hl0] at hw zl hst
          rw [ht] at hst zn
          simp only [ht] at HN1
          clear hl0 ht HN hv hs hdata
          go_wp2_with fail
          refine (HN1.out _).mono ?_
          rintro e w4 ⟨rfl, hb4⟩
          have h4 := Lib.hid (hmore.out _ _ _ hw.out (newOf hb4))
          clear HN1 hb4 hw
          go_wp2_with fail
          refine (hwrite.out _ _ t h4.out (by omega)).mono ?_
          rintro e w5 ⟨rfl, h5⟩
          rw [hst.out] at h5
          replace h5 := Lib.hid h5
          clear h4 hst
          go_wp2_with fail
          go_roundw
          case rel => exact ⟨2, rfl, by omega, h5⟩
          case measure => simp [intOf]
        · rw [show ((2 : Nat) : Int) = 2 from rfl]
          clear r0 r1 wr4 wr5
          obtain ⟨k0, k1, k2, k3, k4, k5⟩ := (hbox.out _ _ hw.out).cells
          have z5 := pr2_le l4 C l.length 2
          obtain ⟨l5, hl5⟩ : ∃ l5, pr2 l4 C l.length 2 = l5 := ⟨_, rfl⟩
          rw [hl5] at hw hdata z5
          clear hl5
          go_wp2_with fail
          clear k0 k1 k2 k3 k4 k5
          go_loopw [46] (fun ov wr => ∃ j : Nat, ov = .int .i64 (j : Int) ∧ j ≤ l.length ∧ Hid (WR (soN l5 l j) wr)) (fun ov _ => l.length - (intOf ov).toNat)
          case atStart => exact ⟨0, rfl, Nat.zero_le _, Lib.hid (by have h := hw.out; unfold soN; simpa using h)⟩
          case round =>
            clear hw
            obtain ⟨j, rfl, hj, hw⟩ := hrel
            by_cases hlt : j < l.length
            · obtain ⟨b0, off, rfl, -, -, hcells⟩ := NView.cells (hv.out.new (hnew.out _ _ hw.out)) (by omega)
              have x0 := hcells j hlt
              have hz := hs.out _ (List.getElem_mem hlt)
              have zl := soN_le (l0 := l5) (j := j) hs.out hl
              have hst := Lib.hid (soN_step (l0 := l5) hlt)
              obtain ⟨s, hs'⟩ : ∃ s, l[j] = s := ⟨_, rfl⟩
              rw [hs'] at x0 hz hst
              have HT := Lib.hid (fun w => Dig.text_any s (by omega) w)
              have zt : (textA s).size ≤ 50 := by rw [textA_size]; have := nd_le s.size; omega
              obtain ⟨t, ht⟩ : ∃ t, textA s = t := ⟨_, rfl⟩
              rw [ht] at hst zt
              simp only [ht] at HT
              clear hs' ht hcells HN hv hs
              go_wp2_with fail
              refine (HT.out _).mono ?_
              rintro e w6 ⟨rfl, hb6⟩
              have h6 := Lib.hid (hmore.out _ _ _ hw.out (newOf hb6))
              clear HT hb6 hw x0
              go_wp2_with fail
              refine (hwrite.out _ _ t h6.out (by omega)).mono ?_
              rintro e w7 ⟨rfl, h7⟩
              rw [← hst.out] at h7
              replace h7 := Lib.hid h7
              clear h6 hst
              go_wp2_with fail
              go_roundw
              case rel => exact ⟨j + 1, by go_num, hlt, h7⟩
              case measure => simp [intOf]; omega
            · have hjl : j = l.length := by omega
              subst hjl
              rw [hdata.out] at hw
              clear hv hs HN
              go_wp2_with fail
              refine (hstr.out _ _ hw.out).mono ?_
              rintro e w6 ⟨rfl, h6⟩
              have hend := Lib.hid (hnew.out _ _ h6)
              clear hw h6
              go_wp2_with fail
              go_ret
              exact ⟨rfl, hend.out⟩
set_option maxHeartbeats 3200000 in
theorem penc_any (w : World) (S : Nat → Prop) (v : Value) (m : M) (hv : MView w S v m) (hb : Bnd m) (hT : Crc.Tab w) :
    Calls Tryd.prog 10 #[v] w fun e w' => e = .returned (.tuple #[.string (encS m), .int .i64 (chk m)]) ∧ New0 w w' := by
  obtain ⟨A, c, rfl, hn⟩ := hv.shape
  have hC := fun w1 (hu : New0 w w1) => pcheck_any w1 S _ m (hv.new hu) hb
  obtain ⟨wb, hwb⟩ : ∃ wb, w.alloc (.cells #[.int .i64 m.epoch, .int .i64 m.base, .int .i64 m.promise, .int .i64 m.mark, .int .i64 m.check, .slice A m.blocks.length c] 26 (0, 0)) = wb := ⟨_, rfl⟩
  have hB := box6 26 w (.int .i64 m.epoch) (.int .i64 m.base) (.int .i64 m.promise) (.int .i64 m.mark) (.int .i64 m.check) (.slice A m.blocks.length c)
  have hU := (Upon.refl (fun _ => False) w).alloc (.cells #[.int .i64 m.epoch, .int .i64 m.base, .int .i64 m.promise, .int .i64 m.mark, .int .i64 m.check, .slice A m.blocks.length c] 26 (0, 0))
  rw [hwb] at hB hU
  have HC := Lib.hid (hC _ hU)
  have hk := hb.rng.k
  by_cases hz : chk m = 0
  · have hg := chk_zero.1 hz
    have hle := data_le hg
    have hs1 : Hid (encS m = Frm.putA 6 (bts (dataL m))) := Lib.hid (encS_ok hz)
    obtain ⟨E, B, P, C, e1, e2, e3, e4, b1, b2, b3, b4⟩ := good_nat hg
    have hD := fun w1 (hu : New0 w w1) => pdata_any w1 S E B P C m.mark m.blocks A c (hn.new hu) b1 b2 b3 b4 hk hg.few (fun b hb => (nm_len (hg.nms b hb)).2)
    rw [← e1, ← e2, ← e3, ← e4] at hD
    replace hD := Lib.hid hD
    replace hC := Lib.hid hC
    rw [hz] at HC
    have HP := Lib.hid (fun w1 (ht : Crc.Tab w1) => pputOk (bts (dataL m)) (by rw [bts_size]; omega) w1 ht)
    have hzz := Lib.hid hz
    obtain ⟨x, hx⟩ : ∃ x, bts (dataL m) = x := ⟨_, rfl⟩
    have hD2 : Hid (∀ w1, New0 w w1 → Calls Tryd.prog 29 #[.agg #[.int .i64 m.epoch, .int .i64 m.base, .int .i64 m.promise, .int .i64 m.mark, .int .i64 m.check, .slice A m.blocks.length c]] w1 fun e w' => e = .returned (.string x) ∧ New0 w1 w') := Lib.hid (fun w1 hu => by rw [← hx]; exact hD.out w1 hu)
    rw [hx] at hs1
    simp only [hx] at HP
    clear hD hx hz hg hle hk hb hn hv e1 e2 e3 e4
    obtain ⟨k0, k1, k2, k3, k4, k5⟩ := hB.cells
    replace hwb := Lib.hid hwb
    replace hU := Lib.hid hU
    replace hB := Lib.hid hB
    replace hT := Lib.hid hT
    go_enter Tryd.func10, Tryd.ntmps10
    go_wp2_with fail
    rw [hwb.out]
    go_wp2_with fail
    refine HC.out.mono ?_
    rintro e w2 ⟨rfl, hu2⟩
    have h2 := Lib.hid (hU.out.trans hu2)
    have hB2 := hB.out.new hu2
    clear HC hu2 k0 k1 k2 k3 k4 k5 hwb hB hU
    obtain ⟨k0, k1, k2, k3, k4, k5⟩ := hB2.cells
    replace hB2 := Lib.hid hB2
    go_wp2_with fail
    refine (hD2.out _ h2.out).mono ?_
    rintro e w3 ⟨rfl, hu3⟩
    have h3 := Lib.hid (h2.out.trans hu3)
    clear hD2 hu3 h2 hB2 k0 k1 k2 k3 k4 k5
    have HP3 := Lib.hid (HP.out w3 (hT.out.below (belowOf h3.out)))
    go_wp2_with fail
    refine HP3.out.mono ?_
    rintro e w4 ⟨rfl, hb4⟩
    have hend := Lib.hid (h3.out.trans (newOf hb4))
    clear HP HP3 h3 hb4
    go_wp2_with fail
    go_ret2
    exact ⟨ret_si hs1.out.symm hzz.out.symm, hend.out⟩
  · have hs1 := Lib.hid (encS_no hz)
    obtain ⟨z, hz2⟩ : ∃ z, chk m = z := ⟨_, rfl⟩
    rw [hz2] at HC hz ⊢
    have dz : (z != 0) = true := by rw [bne_iff_ne]; exact hz
    clear hk hb hn hv hC hz2 hz
    obtain ⟨k0, k1, k2, k3, k4, k5⟩ := hB.cells
    replace hwb := Lib.hid hwb
    replace hU := Lib.hid hU
    go_enter Tryd.func10, Tryd.ntmps10
    go_wp2_with fail
    rw [hwb.out]
    go_wp2_with fail
    refine HC.out.mono ?_
    rintro e w2 ⟨rfl, hu2⟩
    have h2 := Lib.hid (hU.out.trans hu2)
    clear HC hu2 k0 k1 k2 k3 k4 k5 hwb hB hU
    go_wp2_with fail
    go_ret2
    exact ⟨ret_si hs1.out.symm rfl, h2.out⟩
end Mf
end Go.Proofs.YtjpgglajcelllaaDoor
