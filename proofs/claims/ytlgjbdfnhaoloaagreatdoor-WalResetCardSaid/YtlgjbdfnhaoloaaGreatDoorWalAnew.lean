/- The law WalReset (layer 5), walked: a log that is begun anew. -/
import Derived.Test.YtlgjbdfnhaoloaaGreatDoorWalOnLaw
set_option linter.unusedSimpArgs false
set_option linter.unusedVariables false
namespace Go.Proofs.YtlgjbdfnhaoloaaGreatDoor
open Go.RowKit Go.Sort
namespace Wal
open Dig Frm Dsk

/-! ### plainly -/
theorem keep_all : ∀ (l : List Seg) (j : Nat), keepJ (fun _ => true) j l = [] ∧ goneJ (fun _ => true) j l = l.map Seg.name
  | [], _ => ⟨rfl, rfl⟩
  | x :: r, j => by
    unfold keepJ goneJ
    rw [(keep_all r (j + 1)).1, (keep_all r (j + 1)).2]
    exact ⟨rfl, rfl⟩
/-- A disk on which nothing is, and will be. -/
structure Bare (st : St) : Prop where
  up : Up st
  N : st.N = []
  L : st.L = []
  C : st.C = []
theorem Logs.reset {st : St} {lg : Lg} {f p : Nat} {X : List Sg} (h : Logs st lg f X p) (hu : Up st) (hnow : st.N = st.C.foldl appC st.L) (n : Nat) (hn : n ≤ 99999998) :
    ∃ st', resetL lg st (n : Int) = ⟨⟨[], false, false, n, n⟩, st', 0⟩ ∧ Bare st' ∧ st'.F = st.F ∧ st'.room = st.room := by
  have hrise := h.hold.rise
  have hle := h.hold.le
  obtain ⟨st1, t1, t2⟩ := takeL_up (fun _ => true) lg.segs 0 st hu (by rw [h.hold.N]; exact rising_of hrise hle) (fun s hs => by
    rw [h.segs] at hs
    obtain ⟨x, hx, rfl⟩ := List.mem_map.1 hs
    show (lookN st.N (nameL x.first)).isSome
    rw [h.hold.look hx]; rfl) (by rw [h.segs]; exact names_nodup hrise hle)
  rw [(keep_all _ _).1] at t1
  rw [(keep_all _ _).2] at t2
  have hN : st1.N = [] := by
    rw [t2.N, foldl_del, h.hold.N, List.filter_eq_nil_iff]
    intro q hq
    obtain ⟨x, hx, rfl⟩ := List.mem_map.1 hq
    have : (lg.segs.map Seg.name).contains x.nm.1 = true := by
      rw [List.contains_iff_mem, h.segs, List.map_map]
      exact List.mem_map.2 ⟨x, hx, rfl⟩
    show ¬ (!(lg.segs.map Seg.name).contains x.nm.1) = true
    rw [this]; decide
  obtain ⟨s1, s2⟩ := settle_up t2.up (t2.now hnow)
  refine ⟨{ st1 with L := st1.N, C := [] }, ?_, ⟨t2.up, hN, hN, rfl⟩, t2.F, t2.room⟩
  unfold resetL
  rw [if_neg (by omega)]
  simp only [t1, Int.toNat_natCast]
  rw [if_neg (by simp)]
  unfold endL
  rw [s1, s2, if_neg (by simp)]
theorem Bare.crash {st : St} (h : Bare st) (keep : List Int) : Bare (Dsk.crash st keep) ∧ (Dsk.crash st keep).F = st.F ∧ (Dsk.crash st keep).room = st.room := by
  have hN : (Dsk.crash st keep).N = [] := by
    show (st.C.take _).foldl appC st.L = []
    rw [h.C, h.L]; simp
  refine ⟨⟨⟨rfl, rfl⟩, hN, hN, rfl⟩, ?_, rfl⟩
  show cutAll (keep.drop 1) (Dsk.crash st keep).N st.F = _
  rw [hN]; rfl
theorem Bare.open {st : St} (h : Bare st) (n : Nat) (hn : n ≤ 99999998) : openL st (n : Int) = ⟨some ⟨[], false, false, n, n⟩, st, 0⟩ ∧ Logs st ⟨[], false, false, n, n⟩ (n + 1) [] 0 := by
  have hf : found st = [] := by unfold Wal.found names; rw [if_neg (by simp [h.up.1]), h.N]; rfl
  have hO : openT st n = ⟨[], st, 0⟩ := by unfold openT tidyL; rw [hf]; rfl
  constructor
  · unfold openL
    rw [if_neg (by omega), if_neg (by simp [h.up.1])]
    simp only [Int.toNat_natCast, hO]
    rfl
  · exact ⟨⟨h.N, by simp, by simp, trivial, by omega, by simp [recsOf]; omega, by simp [recsOf], by simp⟩, rfl, by simp [recsOf], fun h => (by cases h), Nat.le_refl _, h.L, h.C, fun _ => rfl, by simp, Nat.le_refl _, by simp⟩

def bX : ByteArray := ⟨#[120]⟩
def bY : ByteArray := ⟨#[121]⟩
/-- A log that is begun anew, its disk. -/
structure Anew (B : Nat) (W : World) (pd pl : Nat) (n : Nat) (st : St) (m : Nat) (w : World) : Prop where
  own : LgO B W pd pl st ⟨[], false, false, n, n⟩ (fun _ => False) w
  bare : Bare st
  lim : Lim st m
  room : st.room = 1048576
theorem GoingE.reset {B : Nat} {W w : World} {pd pl : Nat} {rs : List ByteArray} (h : GoingE B W pd pl 1048576 rs (fun _ => False) w) (n : Nat) (hn : n ≤ 99999998) :
    Calls Tryz.prog 21 #[.pointer (some ⟨pl, 0, none⟩), .int .i64 (n : Int)] w fun e w' => e = .returned (.int .i64 0) ∧ ∃ st m, m ≤ 1000 ∧ Anew B W pd pl n st m w' := by
  obtain ⟨st, lg, X, p, m, h⟩ := h
  have hX := h.X
  have hf := h.few
  obtain ⟨st', r1, r2, r3, r4⟩ := h.logs.reset h.up h.own.fine.now n hn
  have hc := h.own.reset (n : Int) ⟨by omega, by omega⟩ h.lim (h.logs.slim (by rw [h.recs]; omega))
  rw [r1] at hc
  exact hc.mono fun e w' ⟨he, ho, hk⟩ => ⟨he, st', m, by have := h.n; omega, ho, r2, h.lim.of r3 (by rw [r2.C]; exact Nat.zero_le _), by rw [r4, h.room]⟩
theorem Anew.crash {B : Nat} {W w w' : World} {pd pl n m : Nat} {st : St} (h : Anew B W pd pl n st m w) (hu : Upon (fun _ => False) w w') {v : Value} {ks : List Int} {db : Nat} (hk : KeepAt w' v ks db) (hdb : ks ≠ [] → w.heap.size ≤ db ∧ db < w'.heap.size) :
    Calls Tryz.prog 15 #[.pointer (some ⟨pd, 0, none⟩), v] w' fun e w'' => e = .returned (.tuple #[]) ∧ DskO B W pd (Dsk.crash st ks) (fun _ => False) w'' :=
  (h.own.disk.crash hu hk hdb h.lim).mono fun e w'' ⟨he, ho, _⟩ => ⟨he, ho⟩
theorem Anew.open {B : Nat} {W w w'' : World} {pd pl n m : Nat} {st : St} (h : Anew B W pd pl n st m w) (hn : n ≤ 99999998) (ks : List Int) (hd : DskO B W pd (Dsk.crash st ks) (fun _ => False) w'') :
    Calls Tryz.prog 10 #[.pointer (some ⟨pd, 0, none⟩), .int .i64 (n : Int)] w'' fun e w3 => ∃ pl' st', e = .returned (.tuple #[.pointer (some ⟨pl', 0, none⟩), .int .i64 0]) ∧ Anew B W pd pl' n st' m w3 := by
  obtain ⟨c1, c2, c3⟩ := h.bare.crash ks
  have hl := h.lim.crash ks
  exact (hd.open (n : Int) ⟨by omega, by omega⟩ hl (c1.open n hn).1).mono fun e w3 ⟨pl', he, ho, _⟩ => ⟨pl', _, he, ho, c1, hl, c3.trans h.room⟩
theorem Anew.append {B : Nat} {W w : World} {pd pl n m : Nat} {st : St} (h : Anew B W pd pl n st m w) (hn : n ≤ 99999998) (hm : m ≤ 1000) (s : ByteArray) (hs : s.size ≤ 1000) :
    Calls Tryz.prog 12 #[.pointer (some ⟨pl, 0, none⟩), .string s] w fun e w' => e = .returned (.tuple #[.int .i64 ((n : Int) + 1), .int .i64 0]) ∧ ∃ st' lg', LgO B W pd pl st' lg' (fun _ => False) w' ∧ Lim st' (m + 1) ∧ readL st' ((n : Int) + 1) lg'.segs = (s, 0) := by
  have hL := (h.bare.open n hn).2
  obtain ⟨a1, a2, a3, a4, a5, a6, a7, a8, a9⟩ := hL.append s hs h.bare.up.wrB (by rw [h.room]; have := lenF_le s hs; simp [recsOf, frs]; omega) (by simp) (by show n < _; omega)
  have hsl := hL.slim (by simp [recsOf])
  have hr := read_chain a3.hold.chain a3.hold.small' (a3.hold.reads (a8 h.bare.up).1) 0 s (by rw [a4]; rfl)
  rw [← a3.segs] at hr
  have e : ((n + 1 + 0 : Nat) : Int) = (n : Int) + 1 := by omega
  rw [e] at hr
  refine (h.own.append s (by omega) h.lim hsl).mono fun e w' ⟨he, ho, _⟩ => ⟨?_, _, _, ho, h.lim.append (by omega) _ s hs (by rw [h.bare.C]; simp), hr⟩
  rw [he, a1, a2]
  rfl

theorem repl_small (k : Nat) : ∀ r ∈ List.replicate k (⟨#[120]⟩ : ByteArray), r.size ≤ 1000 := fun r hr => by rw [(List.mem_replicate.1 hr).2]; simp [ByteArray.size]

set_option maxHeartbeats 8000000 in
set_option maxRecDepth 100000 in
theorem reset_any (W : World) (n at_ : Int) (v2 : Value) (hn : -9223372036854775808 ≤ n ∧ n ≤ 9223372036854775807) (ha : -9223372036854775808 ≤ at_ ∧ at_ ≤ 9223372036854775807) (ks : List Int) (b2 : Nat) (h2 : KeepAt W v2 ks b2) (hb2 : ks ≠ [] → b2 < W.heap.size) (hks : ks.length * 8 ≤ 140737488355328) (hE : Env W.heap.size W) :
    Calls Tryz.prog 7 #[.int .i64 n, .int .i64 at_, v2] W (Yes W) := by
  have HK := Lib.hid h2
  have HKB := Lib.hid hb2
  have HW := Lib.hid (works_true W.heap.size W hE)
  have HE := Lib.hid hE
  have HKS := Lib.hid hks
  obtain ⟨a2, c2, rfl, hl1, hl2, -⟩ := h2
  clear hE hb2 hks
  have q1 : IntKind.u64.wrap n = n % 18446744073709551616 := by rw [IntKind.wrap_u64]
  have q2 : IntKind.u64.wrap at_ = at_ % 18446744073709551616 := by rw [IntKind.wrap_u64]
  have q3 : 0 ≤ n % 18446744073709551616 := Int.emod_nonneg _ (by decide)
  have q4 : 0 ≤ at_ % 18446744073709551616 := Int.emod_nonneg _ (by decide)
  obtain ⟨N, hN⟩ : ∃ m : Nat, n % 18446744073709551616 % 40 = (m : Int) := ⟨(n % 18446744073709551616 % 40).toNat, by omega⟩
  obtain ⟨A, hA⟩ : ∃ m : Nat, at_ % 18446744073709551616 % 99999998 = (m : Int) := ⟨(at_ % 18446744073709551616 % 99999998).toNat, by omega⟩
  have hN2 : N < 40 := by omega
  have hA2 : A < 99999998 := by omega
  have HN := Lib.hid hN
  have HA := Lib.hid hA
  clear hN hA
  go_enter Tryz.func7, Tryz.ntmps7
  go_wp2_with fail
  refine HW.out.mono ?_
  rintro e w1 ⟨rfl, hb1⟩
  have HB1 := Lib.hid hb1
  clear hb1 HW
  go_wp2_with fail
  rw [HN.out, HA.out]
  clear q1 q2 q3 q4 HN HA
  refine (new_any 1048576 ⟨by omega, by omega⟩ w1).mono ?_
  intro e w2 hm
  obtain ⟨pd, rfl, hd2, -⟩ := DskO.made (R := fun _ => False) HE.out HB1.out (fun _ h => h.elim) hm
  have H2 := Lib.hid hd2
  clear hm hd2 HB1
  go_wp2_with fail
  refine (open_new H2.out).mono ?_
  rintro e w3 ⟨pl, rfl, hg3, -⟩
  have H3 := Lib.hid (show GoingE W.heap.size W pd pl 1048576 (List.replicate 0 ⟨#[120]⟩) (fun _ => False) w3 from ⟨_, _, _, _, _, hg3⟩)
  clear hg3 H2
  go_upto_block 0 with fail
  go_cut [10] (fun i wr => GoingE W.heap.size W pd pl 1048576 (List.replicate N ⟨#[120]⟩) (fun _ => False) wr)
  case first =>
    go_wp2_with fail
    go_loopw [10] (fun i wr => ∃ k : Nat, k ≤ N ∧ i = .int .i64 (k : Int) ∧ GoingE W.heap.size W pd pl 1048576 (List.replicate k ⟨#[120]⟩) (fun _ => False) wr) (fun i _ => N - (intOf i).toNat)
    case atStart => exact ⟨0, Nat.zero_le _, rfl, H3.out⟩
    case round =>
      obtain ⟨k, hk, rfl, hg⟩ := hrel
      clear H3
      have HG := Lib.hid hg
      clear hg
      by_cases hkN : k < N
      · have hd1 : decide ((k : Int) < (N : Int)) = true := decide_eq_true (by omega)
        have hroom : (((frs (List.replicate k (⟨#[120]⟩ : ByteArray))).length + lenF ⟨#[120]⟩ : Nat) : Int) ≤ 1048576 := by
          have r1 := frs_le _ (repl_small k)
          have r2 := lenF_le (⟨#[120]⟩ : ByteArray) (by simp [ByteArray.size])
          rw [List.length_replicate] at r1; omega
        have HAP := Lib.hid (HG.out.append ⟨#[120]⟩ (by simp [ByteArray.size]) hroom (by rw [List.length_replicate]; omega))
        clear hroom HG
        go_wp2_with fail
        refine HAP.out.mono ?_
        rintro e w5 ⟨rfl, hg5, -⟩
        rw [← List.replicate_succ'] at hg5
        have HG5 := Lib.hid hg5
        clear hg5 HAP
        go_wp2_with fail
        go_roundw
        case rel => exact ⟨k + 1, by omega, by go_num, HG5.out⟩
        case measure => simp [intOf]; omega
      · have hd1 : decide ((k : Int) < (N : Int)) = false := decide_eq_false (by omega)
        obtain rfl : k = N := by omega
        go_wp2_with fail
        go_meet
        exact HG.out
  have HR := Lib.hid (GoingE.reset hcut A (by omega))
  clear hcut H3
  go_wp2_with fail
  refine HR.out.mono ?_
  rintro e w5 ⟨rfl, st, m, hm, hst⟩
  have H5 := Lib.hid hst
  have HLA := Lib.hid hst.own.last
  have HFI := Lib.hid hst.own.first
  have HDU := Lib.hid hst.own.durable
  have hfi : ((⟨[], false, false, A, A⟩ : Lg).first : Int) = (A : Int) + 1 := by show ((A + 1 : Nat) : Int) = _; omega
  rw [hfi] at HFI
  simp only at HLA HDU
  have hkg : KeepAt (w5.alloc (.cells #[] 3 (0, 0))) (.slice a2 ks.length c2) ks b2 := HK.out.kept fun hn => (Below.heap_alloc _ _ _ (Nat.lt_of_lt_of_le (HKB.out hn) hst.own.below.size)).trans (hst.own.below.block b2 (HKB.out hn))
  have HKG := Lib.hid hkg
  clear hst HR hkg hfi
  go_wp2_with fail
  refine HLA.out.mono ?_
  rintro e w6 ⟨rfl, rfl⟩
  clear HLA
  go_wp2_with fail
  refine HFI.out.mono ?_
  rintro e w6 ⟨rfl, rfl⟩
  clear HFI
  go_wp2_with fail
  refine HDU.out.mono ?_
  rintro e w6 ⟨rfl, rfl⟩
  clear HDU
  go_wp2_with (at_builtin; refine wpList_copyz _ rfl _ _ rfl w5.heap.size (cell_new w5 _) _ ks b2 rfl rfl HKG.out HKS.out ?_)
  intro v' db' wk hkk hup hnew
  have hua : Upon (fun _ => False) w5 wk := Upon.trans (Upon.alloc (Upon.refl _ _) _) hup
  have HCR := Lib.hid (H5.out.crash hua hkk (fun hn => by have := (hnew hn).1; have := (hnew hn).2; simp at *; omega))
  obtain ⟨va, vn, vc, rfl⟩ : ∃ a n c, v' = .slice a n c := by obtain ⟨a, c, e, _⟩ := hkk; exact ⟨a, _, c, e⟩
  clear hkk hup hnew hua HKG
  go_wp2_with fail
  refine HCR.out.mono ?_
  rintro e w6 ⟨rfl, hd6⟩
  have HO := Lib.hid (H5.out.open (by omega) ks hd6)
  clear hd6 HCR
  go_wp2_with fail
  refine HO.out.mono ?_
  rintro e w7 ⟨pl', st', rfl, h7⟩
  have H7 := Lib.hid h7
  have HLA := Lib.hid h7.own.last
  simp only at HLA
  have HAP := Lib.hid (h7.append (by omega) hm ⟨#[121]⟩ (by simp [ByteArray.size]))
  clear h7 HO H5
  go_wp2_with fail
  refine HLA.out.mono ?_
  rintro e w8 ⟨rfl, rfl⟩
  clear HLA
  go_wp2_with fail
  refine HAP.out.mono ?_
  rintro e w8 ⟨rfl, st8, lg8, h8, hl8, hr8⟩
  have hrd := h8.read ((A : Int) + 1) ⟨by omega, by omega⟩ hl8
  rw [hr8] at hrd
  have HRD := Lib.hid hrd
  clear hrd h8 hl8 hr8 HAP H7
  go_wp2_with fail
  refine HRD.out.mono ?_
  rintro e w9 ⟨rfl, h9, -⟩
  have HQ := Lib.hid h9.below
  clear h9 HRD
  go_wp2
  go_ret
  exact ⟨rfl, HQ.out⟩
theorem reset_true (W : World) (n at_ : Int) (v2 : Value) (l0 : -9223372036854775808 ≤ n) (u0 : n ≤ 9223372036854775807) (l1 : -9223372036854775808 ≤ at_) (u1 : at_ ≤ 9223372036854775807) (o2 : IsIntsZ v2 W) (hE : Env W.heap.size W) :
    Calls Tryz.prog 7 #[.int .i64 n, .int .i64 at_, v2] W fun e W' => e = .returned (.bool true) ∧ Below W.heap.size W W' := by
  obtain ⟨ks, b2, h2, hb2, hks⟩ := o2
  exact reset_any W n at_ v2 ⟨l0, u0⟩ ⟨l1, u1⟩ ks b2 h2 hb2 hks hE
end Wal
end Go.Proofs.YtlgjbdfnhaoloaaGreatDoor
