/- The law WalCuts (layer 5), walked: a log that is cut goes on from there. -/
import Derived.Test.YtlgjbdfnhaoloaaGreatDoorWalDrops
import Derived.Test.YtlgjbdfnhaoloaaGreatDoorWalCut
import Derived.Test.YtlgjbdfnhaoloaaGreatDoorWalCutP
set_option linter.unusedSimpArgs false
set_option linter.unusedVariables false
namespace Go.Proofs.YtlgjbdfnhaoloaaGreatDoor
open Go.RowKit Go.Sort
namespace Wal
open Dig Frm Dsk

theorem rsK_take (N a : Nat) (h : a ≤ N) : (rsK N).take a = rsK a := by unfold rsK; rw [← List.map_take, List.take_range, Nat.min_eq_left h]
/-- A log that was cut, or opened anew behind it: all lasts. -/
structure Cu (B : Nat) (W : World) (pd pl a : Nat) (st : St) (lg : Lg) (Z : List Sg) (m : Nat) (w : World) : Prop where
  own : LgO B W pd pl st lg (fun _ => False) w
  logs : Logs st lg 1 Z Z.length
  marks : ∀ z ∈ Z, z.marked = false
  up : Up st
  room : st.room = 1048576
  lim : Lim st m
  recs : recsOf Z = rsK a
  last : lg.last = a
  len : Z.length < 64
theorem Going.cut {B : Nat} {W w : World} {pd pl p n N : Nat} {st : St} {lg : Lg} {X : List Sg} (h : Going B W pd pl 1048576 (rsK N) (fun _ => False) st lg X p n w) (hs : Sure st X p) (hN : N ≤ 60) (a : Nat) (ha : a ≤ N) :
    Calls Tryz.prog 18 #[.pointer (some ⟨pl, 0, none⟩), .int .i64 (a : Int)] w fun e w' => e = .returned (.int .i64 0) ∧ ∃ st' lg' Z, Cu B W pd pl a st' lg' Z 1000 w' := by
  have hx := h.X
  have hlen := rsK_len N
  rw [hlen] at hx
  have hn := h.n
  rw [hlen] at hn
  have hfr := frs_le _ (rsK_small N)
  rw [hlen] at hfr
  obtain ⟨Z, k⟩ := h.logs.cut hs.p hs.marks h.up h.own.fine.now a (by omega) (by rw [h.recs, h.room]; omega) (by omega)
  have hfirst : lg.first ≤ 1 := by
    unfold Lg.first
    rw [h.logs.segs]
    have hc := h.logs.hold.chain
    have hl := h.logs.last
    cases hX0 : X with
    | nil => rw [hX0] at hl; simp only [List.map_nil]; simp [recsOf] at hl; omega
    | cons x r => rw [hX0] at hc; have := hc.1; show x.first ≤ 1; omega
  have hlp : ∀ s ∈ lg.segs, ∀ z ∈ s.lens, 1 ≤ z := by
    intro s hsm z hz
    rw [h.logs.segs] at hsm
    obtain ⟨x, hxm, rfl⟩ := List.mem_map.1 hsm
    obtain ⟨r, _, rfl⟩ := List.mem_map.1 (show z ∈ x.recs.map lenF from hz)
    have := lenF_pos r; omega
  have hsl := (h.logs.slim (by rw [h.recs, hlen]; omega)).len
  have hc := h.own.call fun S hl => (cut_any B S pd pl st h.lim.F (by have := h.lim.chs; omega) lg hsl hlp a (by omega) (by omega) (by omega) w hl : Calls Tryz.prog 18 #[.pointer (some ⟨pl, 0, none⟩), .int .i64 (a : Int)] w fun e w' => e = .returned (.int .i64 (cutL lg st (a : Int)).err) ∧ LStep B S pd pl (cutL lg st (a : Int)).st (cutL lg st (a : Int)).lg w w')
  refine hc.mono fun e w' ⟨he, ho, _⟩ => ⟨by rw [he, k.err], _, _, Z, ho, k.logs, k.marks, k.up, by rw [k.room, h.room], ⟨k.F _ (fun f hf => by have := h.lim.file f hf; omega) (by rw [h.recs]; omega), by rw [k.C]; exact Nat.zero_le _, by omega⟩, by rw [k.recs, h.recs, rsK_take N a ha], k.last, by have := k.len; omega⟩
theorem Cu.crash {B : Nat} {W w w' : World} {pd pl a m : Nat} {st : St} {lg : Lg} {Z : List Sg} (h : Cu B W pd pl a st lg Z m w) (hu : Upon (fun _ => False) w w') {v : Value} {ks : List Int} {db : Nat} (hk : KeepAt w' v ks db) (hdb : ks ≠ [] → w.heap.size ≤ db ∧ db < w'.heap.size) :
    Calls Tryz.prog 15 #[.pointer (some ⟨pd, 0, none⟩), v] w' fun e w'' => e = .returned (.tuple #[]) ∧ DskO B W pd (Dsk.crash st ks) (fun _ => False) w'' :=
  (h.own.disk.crash hu hk hdb h.lim).mono fun e w'' ⟨he, ho, _⟩ => ⟨he, ho⟩
theorem Cu.open {B : Nat} {W w w'' : World} {pd pl a m : Nat} {st : St} {lg : Lg} {Z : List Sg} (h : Cu B W pd pl a st lg Z m w) (ks : List Int) (hd : DskO B W pd (Dsk.crash st ks) (fun _ => False) w'') :
    Calls Tryz.prog 10 #[.pointer (some ⟨pd, 0, none⟩), .int .i64 0] w'' fun e w3 => ∃ pl' st' lg', e = .returned (.tuple #[.pointer (some ⟨pl', 0, none⟩), .int .i64 0]) ∧ Cu B W pd pl' a st' lg' Z m w3 := by
  obtain ⟨lg', o1, o2, o3, o4, o5, o6, o7⟩ := h.logs.anew rfl h.marks ks
  have hl := h.lim.crash ks
  exact (hd.open 0 ⟨by omega, by omega⟩ hl o1).mono fun e w3 ⟨pl', he, ho, _⟩ => ⟨pl', _, lg', he, ho, o2, h.marks, o3, o7.trans h.room, hl, h.recs, o4.trans h.last, h.len⟩
/-- Behind one record more. -/
structure Ap (B : Nat) (W : World) (pd pl a : Nat) (st : St) (lg : Lg) (m : Nat) (w : World) : Prop where
  own : LgO B W pd pl st lg (fun _ => False) w
  lim : Lim st m
  reads : ∀ i, 1 ≤ i → i ≤ a → readL st (i : Int) lg.segs = (bt i, 0)
theorem Cu.append {B : Nat} {W w : World} {pd pl a m : Nat} {st : St} {lg : Lg} {Z : List Sg} (h : Cu B W pd pl a st lg Z m w) (ha : a ≤ 60) (hm : m ≤ 1000) (s : ByteArray) (hs : s.size ≤ 1000) :
    Calls Tryz.prog 12 #[.pointer (some ⟨pl, 0, none⟩), .string s] w fun e w' => e = .returned (.tuple #[.int .i64 ((a : Int) + 1), .int .i64 0]) ∧ ∃ st' lg', Ap B W pd pl a st' lg' (m + 1) w' := by
  have hlen := rsK_len a
  have hfr := frs_le _ (rsK_small a)
  rw [hlen] at hfr
  have hls := lenF_le s hs
  obtain ⟨a1, a2, a3, a4, a5, a6, a7, a8, a9⟩ := h.logs.append s hs h.up.wrB (by rw [h.recs, h.room]; omega) h.len (by rw [h.last]; omega)
  have hC : st.C.length < 2000 := by rw [h.logs.C, List.drop_length]; simp
  refine (h.own.append s (by omega) h.lim (h.logs.slim (by rw [h.recs, hlen]; omega))).mono fun e w' ⟨he, ho, _⟩ => ⟨?_, _, _, ho, h.lim.append (by omega) lg s hs hC, fun i h1 h2 => ?_⟩
  · rw [he, a1, a2, h.last]; rfl
  · have hr := read_chain a3.hold.chain a3.hold.small' (a3.hold.reads (a8 h.up).1) (i - 1) (bt i) (by
      rw [a4, h.recs, List.getElem?_append_left (by rw [hlen]; omega), rsK_at a (i - 1) (by omega)]
      congr 2; omega)
    rw [← a3.segs, show 1 + (i - 1) = i by omega] at hr
    exact hr

theorem rem_le (x : Int) (N : Nat) (hx : 0 ≤ x) : ∃ A : Nat, x % ((N : Int) + 1) = (A : Int) ∧ A ≤ N := by
  have h1 := Int.emod_nonneg x (show (N : Int) + 1 ≠ 0 by omega)
  have h2 := Int.emod_lt_of_pos x (show 0 < (N : Int) + 1 by omega)
  obtain ⟨A, hA⟩ := Int.eq_ofNat_of_zero_le h1
  exact ⟨A, hA, by omega⟩

set_option maxHeartbeats 8000000 in
set_option maxRecDepth 100000 in
theorem cuts_any (W : World) (n at_ : Int) (v2 : Value) (hn : -9223372036854775808 ≤ n ∧ n ≤ 9223372036854775807) (hat : -9223372036854775808 ≤ at_ ∧ at_ ≤ 9223372036854775807) (ks : List Int) (b2 : Nat) (h2 : KeepAt W v2 ks b2) (hb2 : ks ≠ [] → b2 < W.heap.size) (hks : ks.length * 8 ≤ 140737488355328) (hE : Env W.heap.size W) :
    Calls Tryz.prog 4 #[.int .i64 n, .int .i64 at_, v2] W (Yes W) := by
  have HK := Lib.hid h2
  have HKB := Lib.hid hb2
  have HW := Lib.hid (works_true W.heap.size W hE)
  have HE := Lib.hid hE
  have HKS := Lib.hid hks
  obtain ⟨a2, c2, rfl, hl1, hl2, -⟩ := h2
  clear hE hb2 hks
  have q1 : IntKind.u64.wrap n = n % 18446744073709551616 := by rw [IntKind.wrap_u64]
  have q2 : IntKind.u64.wrap at_ = at_ % 18446744073709551616 := by rw [IntKind.wrap_u64]
  have q3 : 0 ≤ n % 18446744073709551616 := Int.emod_nonneg _ (by decide)
  have q4 : 0 ≤ at_ % 18446744073709551616 := Int.emod_nonneg _ (by decide)
  have q4' : at_ % 18446744073709551616 < 18446744073709551616 := Int.emod_lt_of_pos _ (by decide)
  obtain ⟨N, hN⟩ : ∃ m : Nat, 1 + n % 18446744073709551616 % 50 = (m : Int) := ⟨(1 + n % 18446744073709551616 % 50).toNat, by omega⟩
  have hN1 : 1 ≤ N := by omega
  have hN2 : N ≤ 50 := by omega
  have q5 : IntKind.u64.wrap ((N : Int) + 1) = (N : Int) + 1 := by rw [IntKind.wrap_u64]; omega
  obtain ⟨X, hX⟩ : ∃ X, at_ % 18446744073709551616 = X := ⟨_, rfl⟩
  rw [hX] at q2 q4 q4'
  obtain ⟨A, hA, hA2⟩ := rem_le X N q4
  have hA3 : X.tmod ((N : Int) + 1) = (A : Int) := by rw [Int.tmod_eq_emod_of_nonneg q4]; exact hA
  have q6 : IntKind.u64.wrap (A : Int) = (A : Int) := by rw [IntKind.wrap_u64]; omega
  have q7 : IntKind.i64.wrap (A : Int) = (A : Int) := IntWalk.i64_in _ (by omega)
  have HA := Lib.hid hA
  have HA3 := Lib.hid hA3
  clear hX hA hA3
  go_enter Tryz.func4, Tryz.ntmps4
  go_wp2_with fail
  refine HW.out.mono ?_
  rintro e w1 ⟨rfl, hb1⟩
  have HB1 := Lib.hid hb1
  clear hb1 HW
  go_wp2_with fail
  rw [HA.out]
  clear q1 q2 q3 q4 q4' q5 q6 hN HA HA3 hn hat
  have q8 : wrap64 (A : Int) = (A : Int) := by
    first
    | exact q7
    | (unfold wrap64; omega)
    | simpa using q7
  rw [q8]
  clear q7 q8
  refine (new_any 1048576 ⟨by omega, by omega⟩ w1).mono ?_
  intro e w2 hm
  obtain ⟨pd, rfl, hd2, -⟩ := DskO.made (R := fun _ => False) HE.out HB1.out (fun _ h => h.elim) hm
  have H2 := Lib.hid hd2
  clear hm hd2 HB1
  go_wp2_with fail
  refine (open_new H2.out).mono ?_
  rintro e w3 ⟨pl, rfl, hg3, -⟩
  have H3 := Lib.hid (show Dr W.heap.size W pd pl 0 w3 from ⟨_, _, _, _, _, hg3, sixteen_nil, fun h => absurd rfl h⟩)
  clear hg3 H2
  go_upto_block 0 with fail
  go_cut [10] (fun i wr => Dr W.heap.size W pd pl N wr)
  case first =>
    go_wp2_with fail
    go_loopw [10] (fun i wr => ∃ k : Nat, k ≤ N ∧ i = .int .i64 ((k : Int) + 1) ∧ Dr W.heap.size W pd pl k wr) (fun i _ => N + 1 - (intOf i).toNat)
    case atStart => exact ⟨0, Nat.zero_le _, rfl, H3.out⟩
    case round =>
      obtain ⟨k, hk, rfl, hg⟩ := hrel
      clear H3
      have HG := Lib.hid hg
      clear hg
      by_cases hkN : k < N
      · have hd1 : decide ((k : Int) + 1 ≤ (N : Int)) = true := decide_eq_true (by omega)
        have hu8 : IntKind.u8.wrap ((k : Int) + 1) = (k : Int) + 1 := by rw [IntKind.wrap_u8]; omega
        have c1 := conv_byte (wr.alloc (.cells #[.int .u8 ((k : Int) + 1)] 5 (0, 0))) wr.heap.size (k + 1) ((k : Int) + 1) (by omega) (by omega) (cell_new wr _)
        have c2 := conv_byte (wr.alloc (.cells #[.int .u8 ((k : Int) + 1)] 5 (0, 0))).drew wr.heap.size (k + 1) ((k : Int) + 1) (by omega) (by omega) (cell_new wr _)
        have HAP := Lib.hid (fun w' (hu : Upon (fun _ => False) wr w') => Dr.append (HG.out.grow hu (Nat.le_refl _)) (by omega) (by omega))
        clear HG
        go_wp2_with fail
        refine (HAP.out _ (by repeat (first | exact Upon.refl _ _ | refine Upon.drew ?_ | refine Upon.alloc ?_ _))).mono ?_
        rintro e w5 ⟨rfl, hg5⟩
        have HG5 := Lib.hid hg5
        clear hg5 HAP c1 c2 hu8
        go_wp2_with fail
        go_roundw
        case rel => exact ⟨k + 1, by omega, by go_num, HG5.out⟩
        case measure => simp [intOf]; omega
      · have hd1 : decide ((k : Int) + 1 ≤ (N : Int)) = false := decide_eq_false (by omega)
        obtain rfl : k = N := by omega
        go_wp2_with fail
        go_meet
        exact HG.out
  have HS := Lib.hid hcut.sync
  clear hcut H3
  go_wp2_with fail
  refine HS.out.mono ?_
  rintro e w5 ⟨rfl, st, lg, X5, p, n5, hg, hX, hh, hsu⟩
  have HCT := Lib.hid (hg.cut hsu (by omega) A hA2)
  clear hg hX hh hsu HS
  go_wp2_with fail
  refine HCT.out.mono ?_
  rintro e w6 ⟨rfl, st6, lg6, Z, hcu⟩
  have H6 := Lib.hid hcu
  have HLA := hcu.own.last
  rw [hcu.last] at HLA
  replace HLA := Lib.hid HLA
  have hkg : KeepAt (w6.alloc (.cells #[] 3 (0, 0))) (.slice a2 ks.length c2) ks b2 := HK.out.kept fun hn => (Below.heap_alloc _ _ _ (Nat.lt_of_lt_of_le (HKB.out hn) hcu.own.below.size)).trans (hcu.own.below.block b2 (HKB.out hn))
  have HKG := Lib.hid hkg
  clear hcu HCT hkg
  go_wp2_with fail
  refine HLA.out.mono ?_
  rintro e w7 ⟨rfl, rfl⟩
  clear HLA
  go_wp2_with (at_builtin; refine wpList_copyz _ rfl _ _ rfl w6.heap.size (cell_new w6 _) _ ks b2 rfl rfl HKG.out HKS.out ?_)
  intro v' db' wk hkk hup hnew
  have hua : Upon (fun _ => False) w6 wk := Upon.trans (Upon.alloc (Upon.refl _ _) _) hup
  have HCR := Lib.hid (H6.out.crash hua hkk (fun hn => by have := (hnew hn).1; have := (hnew hn).2; simp at *; omega))
  obtain ⟨va, vn, vc, rfl⟩ : ∃ a n c, v' = .slice a n c := by obtain ⟨a, c, e, _⟩ := hkk; exact ⟨a, _, c, e⟩
  clear hkk hup hnew hua HKG
  go_wp2_with fail
  refine HCR.out.mono ?_
  rintro e w7 ⟨rfl, hd7⟩
  have HO := Lib.hid (H6.out.open ks hd7)
  clear hd7 HCR
  go_wp2_with fail
  refine HO.out.mono ?_
  rintro e w8 ⟨pl', st8, lg8, rfl, h8⟩
  have HLA := h8.own.last
  rw [h8.last] at HLA
  replace HLA := Lib.hid HLA
  have HAP := Lib.hid (h8.append (by omega) (by omega) ⟨#[110, 101, 120, 116]⟩ (by simp [ByteArray.size]))
  clear h8 HO H6
  go_wp2_with fail
  refine HLA.out.mono ?_
  rintro e w9 ⟨rfl, rfl⟩
  clear HLA
  go_wp2_with fail
  refine HAP.out.mono ?_
  rintro e w9 ⟨rfl, st9, lg9, h9⟩
  have H9 := Lib.hid h9
  clear h9 HAP
  go_wp2_with fail
  go_loopw [13] (fun i wr => ∃ j : Nat, j ≤ A ∧ i = .int .i64 ((j : Int) + 1) ∧ Ap W.heap.size W pd pl' A st9 lg9 (1000 + 1) wr) (fun i _ => A + 1 - (intOf i).toNat)
  case atStart => exact ⟨0, Nat.zero_le _, rfl, H9.out⟩
  case round =>
    obtain ⟨k, hk, rfl, hg⟩ := hrel
    clear H9
    have HG := Lib.hid hg
    have HQ := Lib.hid hg.own.below
    clear hg
    by_cases hlt : k < A
    · have hd1 : decide ((k : Int) + 1 ≤ (A : Int)) = true := decide_eq_true (by omega)
      have hu8 : IntKind.u8.wrap ((k : Int) + 1) = (k : Int) + 1 := by rw [IntKind.wrap_u8]; omega
      have hrd := HG.out.own.read ((k : Int) + 1) ⟨by omega, by omega⟩ HG.out.lim
      have hrr := HG.out.reads (k + 1) (by omega) (by omega)
      rw [show ((k + 1 : Nat) : Int) = (k : Int) + 1 by omega] at hrr
      rw [hrr] at hrd
      have HRD := Lib.hid hrd
      clear hrd hrr
      go_wp2_with fail
      refine HRD.out.mono ?_
      rintro e w8 ⟨rfl, ho8, -⟩
      have HGR := Lib.hid (fun w' (hu : Upon (fun _ => False) w8 w') => ({ HG.out with own := ho8.grow hu (Nat.le_refl _) } : Ap W.heap.size W pd pl' A st9 lg9 (1000 + 1) w'))
      have c1 := conv_byte (w8.alloc (.cells #[.int .u8 ((k : Int) + 1)] 5 (0, 0))) w8.heap.size (k + 1) ((k : Int) + 1) (by omega) (by omega) (cell_new w8 _)
      have c2 := conv_byte (w8.alloc (.cells #[.int .u8 ((k : Int) + 1)] 5 (0, 0))).drew w8.heap.size (k + 1) ((k : Int) + 1) (by omega) (by omega) (cell_new w8 _)
      clear ho8 HRD HG
      go_wp2_with fail
      go_roundw
      case rel => exact ⟨k + 1, by omega, by go_num, HGR.out _ (by repeat (first | exact Upon.refl _ _ | refine Upon.drew ?_ | refine Upon.alloc ?_ _))⟩
      case measure => simp [intOf]; omega
    · have hd1 : decide ((k : Int) + 1 ≤ (A : Int)) = false := decide_eq_false (by omega)
      go_wp2_with fail
      go_ret
      exact ⟨rfl, HQ.out⟩
theorem cuts_true (W : World) (n at_ : Int) (v2 : Value) (l0 : -9223372036854775808 ≤ n) (u0 : n ≤ 9223372036854775807) (l1 : -9223372036854775808 ≤ at_) (u1 : at_ ≤ 9223372036854775807) (o2 : IsIntsZ v2 W) (hE : Env W.heap.size W) :
    Calls Tryz.prog 4 #[.int .i64 n, .int .i64 at_, v2] W fun e W' => e = .returned (.bool true) ∧ Below W.heap.size W W' := by
  obtain ⟨ks, b2, h2, hb2, hks⟩ := o2
  exact cuts_any W n at_ v2 ⟨l0, u0⟩ ⟨l1, u1⟩ ks b2 h2 hb2 hks hE
end Wal
end Go.Proofs.YtlgjbdfnhaoloaaGreatDoor
