/- A log that the law's call has made, with the records that it has (layer 5): its calls; the law's own trial ('works'). -/
import Derived.Test.YtlgjbdfnhaoloaaGreatDoorWalOwn
set_option linter.unusedSimpArgs false
set_option linter.unusedVariables false
namespace Go.Proofs.YtlgjbdfnhaoloaaGreatDoor
open Go.RowKit Go.Sort
namespace Wal
open Dig Frm Dsk

theorem Lim.mono {st : St} {n m : Nat} (h : Lim st n) (hm : n ≤ m) (hk : m ≤ 100000) : Lim st m := ⟨fun f hf => by have := h.file f hf; omega, h.chs, hk⟩
theorem Lim.appS {st : St} {n : Nat} (h : Lim st n) (hn : n < 100000) (k s : Str) (hs : s.length ≤ 2000) (hC : st.C.length < 2000) : Lim (Dsk.appS st k s) (n + 1) := by
  unfold Dsk.appS
  split
  · refine h.wr.addF hn k s hs ?_
    unfold Dsk.addF
    split
    · show (wrS st).C.length ≤ _; rw [wrS_C]; omega
    · show ((wrS st).C ++ [_]).length ≤ _; rw [wrS_C, List.length_append, List.length_singleton]; omega
  · exact h.wr.mono (by omega) (by omega)
theorem Lim.append {st : St} {n : Nat} (h : Lim st n) (hn : n < 100000) (lg : Lg) (s : ByteArray) (hs : s.size ≤ 1000) (hC : st.C.length < 2000) : Lim (appendL lg st s).st (n + 1) := by
  have hz : (putS 1 s).data.toList.length ≤ 2000 := by rw [(put1 s (by omega)).1]; have h1 := lenF_le s hs; have h2 := fr_len s; unfold fr at h2; omega
  unfold appendL
  split
  · exact h.mono (by omega) (by omega)
  · split
    · exact h.mono (by omega) (by omega)
    · split <;> exact h.appS hn _ _ hz hC
theorem Lim.syncS {st : St} {n : Nat} (h : Lim st n) (k : Str) : Lim (Dsk.syncS st k) n := by
  unfold Dsk.syncS
  split
  · unfold syncF
    split
    · exact ⟨mod_le (by rw [wrS_F]; exact h.file) fun f hf => hf, by show (wrS st).C.length ≤ _; rw [wrS_C]; exact h.chs, h.n⟩
    · exact h.wr
  · exact h.wr
theorem Lim.snS {st : St} {n : Nat} (h : Lim st n) : Lim (Dsk.snS st) n := by
  unfold Dsk.snS
  split
  · exact ⟨by show ∀ f ∈ (wrS st).F, _; rw [wrS_F]; exact h.file, Nat.zero_le _, h.n⟩
  · exact h.wr
theorem Lim.syncSegs {n : Nat} : ∀ (l : List Seg) {st : St}, Lim st n → Lim (Wal.syncSegs l st).st n
  | [], _, h => h
  | s :: r, st, h => by
    unfold Wal.syncSegs
    split
    · split
      · exact h.syncS _
      · exact Lim.syncSegs r (h.syncS _)
    · exact Lim.syncSegs r h
theorem Lim.syncL {st : St} {n : Nat} (h : Lim st n) (lg : Lg) : Lim (Wal.syncL lg st).st n := by
  unfold Wal.syncL
  have h1 := Lim.syncSegs lg.segs h
  split
  · exact h1
  · split
    · split <;> exact h1.snS
    · exact h1

/-- A log with these records, the disk with power. -/
structure Going (B : Nat) (W : World) (pd pl : Nat) (room : Int) (rs : List ByteArray) (R : Nat → Prop) (st : St) (lg : Lg) (X : List Sg) (p n : Nat) (w : World) : Prop where
  own : LgO B W pd pl st lg R w
  logs : Logs st lg 1 X p
  up : Up st
  room : st.room = room
  lim : Lim st n
  recs : recsOf X = rs
  n : n ≤ rs.length
  few : rs.length ≤ 1000
theorem Going.X {B : Nat} {W w : World} {pd pl p n : Nat} {room : Int} {rs : List ByteArray} {R : Nat → Prop} {st : St} {lg : Lg} {X : List Sg} (h : Going B W pd pl room rs R st lg X p n w) : X.length ≤ rs.length ∧ st.C.length ≤ rs.length ∧ lg.last = rs.length := by
  have h1 := chain_len h.logs.hold.chain
  rw [h.recs] at h1
  have h2 := h.logs.last
  rw [h.recs] at h2
  refine ⟨h1, ?_, by omega⟩
  rw [h.logs.C, List.length_map, List.length_drop]; omega
theorem Going.append {B : Nat} {W w : World} {pd pl p n : Nat} {room : Int} {rs : List ByteArray} {R : Nat → Prop} {st : St} {lg : Lg} {X : List Sg} (h : Going B W pd pl room rs R st lg X p n w) (s : ByteArray) (hs : s.size ≤ 1000)
    (hr : (((frs rs).length + lenF s : Nat) : Int) ≤ room) (hX : X.length < 64) (hf : rs.length < 1000) :
    Calls Tryz.prog 12 #[.pointer (some ⟨pl, 0, none⟩), .string s] w fun e w' => e = .returned (.tuple #[.int .i64 ((rs.length : Int) + 1), .int .i64 0]) ∧
      (∃ st' lg' X', X' = appX (begins lg) X (rs.length + 1) s st.F.length ∧ Going B W pd pl room (rs ++ [s]) R st' lg' X' p (n + 1) w' ∧ lg'.hand = true ∧ lg'.dur = lg.dur) ∧ Kept R w w' := by
  obtain ⟨x1, x2, x3⟩ := h.X
  have hn := h.n
  obtain ⟨a1, a2, a3, a4, a5, a6, a7, a8, a9⟩ := h.logs.append s hs h.up.wrB (by rw [h.recs, h.room]; exact hr) hX (by omega)
  refine (h.own.append s (by omega) h.lim (h.logs.slim (by rw [h.recs]; omega))).mono fun e w' ⟨he, ho, hk⟩ => ⟨?_, ⟨_, _, _, by rw [← x3], ⟨ho, a3, a8 h.up, by rw [a5, h.room], h.lim.append (by omega) lg s hs (by omega), by rw [a4, h.recs], by rw [List.length_append, List.length_singleton]; omega, by rw [List.length_append, List.length_singleton]; omega⟩, a9, a6⟩, hk⟩
  rw [he, a1, a2, x3]
  rfl
/-- Behind Sync: all lasts. -/
structure Sure (st : St) (X : List Sg) (p : Nat) : Prop where
  p : p = X.length
  marks : ∀ x ∈ X, x.marked = false
theorem Going.sync {B : Nat} {W w : World} {pd pl p n : Nat} {room : Int} {rs : List ByteArray} {R : Nat → Prop} {st : St} {lg : Lg} {X : List Sg} (h : Going B W pd pl room rs R st lg X p n w) :
    Calls Tryz.prog 13 #[.pointer (some ⟨pl, 0, none⟩)] w fun e w' => e = .returned (.int .i64 0) ∧
      ∃ X', Going B W pd pl room rs R (syncL lg st).st (syncL lg st).lg X' X'.length n w' ∧ Sure (syncL lg st).st X' X'.length ∧ GrewS X X' ∧ (syncL lg st).lg.dur = rs.length ∧ (syncL lg st).lg.hand = lg.hand ∧ Kept R w w' := by
  obtain ⟨x1, x2, x3⟩ := h.X
  obtain ⟨X', p', k⟩ := h.logs.sync
  obtain ⟨u1, u2⟩ := k.up h.up
  obtain ⟨q1, q2, q3⟩ := k.ok u2
  refine h.own.sync.mono fun e w' ⟨he, ho, hk⟩ => ⟨by rw [he, u2], X', ⟨ho, by rw [← q1]; exact k.logs, u1, by rw [k.room, h.room], h.lim.syncL lg, by rw [k.grew.recs, h.recs], h.n, h.few⟩, ⟨rfl, q2⟩, k.grew, by rw [q3, x3], k.hand, hk⟩
theorem Going.last {B : Nat} {W w : World} {pd pl p n : Nat} {room : Int} {rs : List ByteArray} {R : Nat → Prop} {st : St} {lg : Lg} {X : List Sg} (h : Going B W pd pl room rs R st lg X p n w) :
    Calls Tryz.prog 16 #[.pointer (some ⟨pl, 0, none⟩)] w fun e w' => e = .returned (.int .i64 (rs.length : Int)) ∧ w = w' := by
  have := h.own.last
  rw [h.X.2.2] at this
  exact this
theorem Going.first {B : Nat} {W w : World} {pd pl p n : Nat} {room : Int} {rs : List ByteArray} {R : Nat → Prop} {st : St} {lg : Lg} {X : List Sg} (h : Going B W pd pl room rs R st lg X p n w) :
    Calls Tryz.prog 20 #[.pointer (some ⟨pl, 0, none⟩)] w fun e w' => e = .returned (.int .i64 1) ∧ w = w' := by
  have h1 := h.own.first
  have : lg.first = 1 := by
    unfold Lg.first
    rw [h.logs.segs]
    have hc := h.logs.hold.chain
    have hl := h.logs.last
    cases X with
    | nil => simp only [List.map_nil]; rw [hl]; rfl
    | cons x r => exact hc.1
  rw [this] at h1
  exact h1
theorem Going.reads {B : Nat} {W w : World} {pd pl p n : Nat} {room : Int} {rs : List ByteArray} {R : Nat → Prop} {st : St} {lg : Lg} {X : List Sg} (h : Going B W pd pl room rs R st lg X p n w) (j : Nat) (r : ByteArray) (hj : rs[j]? = some r) :
    readL st ((1 + j : Nat) : Int) lg.segs = (r, 0) := by
  rw [h.logs.segs]
  exact read_chain h.logs.hold.chain h.logs.hold.small' (h.logs.hold.reads h.up.1) j r (by rw [h.recs]; exact hj)
theorem Going.read {B : Nat} {W w : World} {pd pl p n : Nat} {room : Int} {rs : List ByteArray} {R : Nat → Prop} {st : St} {lg : Lg} {X : List Sg} (h : Going B W pd pl room rs R st lg X p n w) (i : Int) (hi : 1 ≤ i) (j : Nat) (hij : i = ((1 + j : Nat) : Int)) (r : ByteArray) (hj : rs[j]? = some r) :
    Calls Tryz.prog 17 #[.pointer (some ⟨pl, 0, none⟩), .int .i64 i] w fun e w' => e = .returned (.tuple #[.string r, .int .i64 0]) ∧ Going B W pd pl room rs R st lg X p n w' ∧ Kept R w w' := by
  subst hij
  have hlt := (List.getElem?_eq_some_iff.1 hj).1
  have hfw := h.few
  have hc := h.own.read ((1 + j : Nat) : Int) ⟨by omega, by omega⟩ h.lim
  rw [h.reads j r hj] at hc
  exact hc.mono fun e w' ⟨he, ho, hk⟩ => ⟨he, { h with own := ho }, hk⟩
theorem Going.begin {B : Nat} {W w : World} {pd pl : Nat} {room : Int} {R : Nat → Prop} (h : LgO B W pd pl (new room) ⟨[], false, false, 0, 0⟩ R w) : Going B W pd pl room [] R (new room) ⟨[], false, false, 0, 0⟩ [] 0 0 w :=
  ⟨h, (Logs.new room).2.1, (Logs.new room).2.2, rfl, lim_new room, rfl, Nat.le_refl _, by simp⟩
theorem open_new {B : Nat} {W w : World} {pd : Nat} {room : Int} {R : Nat → Prop} (h : DskO B W pd (new room) R w) :
    Calls Tryz.prog 10 #[.pointer (some ⟨pd, 0, none⟩), .int .i64 0] w fun e w' => ∃ pl, e = .returned (.tuple #[.pointer (some ⟨pl, 0, none⟩), .int .i64 0]) ∧ Going B W pd pl room [] R (new room) ⟨[], false, false, 0, 0⟩ [] 0 0 w' ∧ Kept R w w' :=
  (h.open 0 ⟨by omega, by omega⟩ (lim_new room) (Logs.new room).1).mono fun e w' ⟨pl, he, ho, hk⟩ => ⟨pl, he, Going.begin ho, hk⟩

/-- A disk behind a crash, of which a log is known to be opened. -/
structure Fell (B : Nat) (W : World) (pd : Nat) (room : Int) (rs : List ByteArray) (R : Nat → Prop) (st : St) (lg : Lg) (X : List Sg) (n : Nat) (w : World) : Prop where
  own : DskO B W pd st R w
  op : openL st 0 = ⟨some lg, st, 0⟩
  logs : Logs st lg 1 X X.length
  marks : ∀ x ∈ X, x.marked = false
  up : Up st
  room : st.room = room
  lim : Lim st n
  recs : recsOf X = rs
  n : n ≤ rs.length
  few : rs.length ≤ 1000
theorem Fell.open {B : Nat} {W w : World} {pd n : Nat} {room : Int} {rs : List ByteArray} {R : Nat → Prop} {st : St} {lg : Lg} {X : List Sg} (h : Fell B W pd room rs R st lg X n w) :
    Calls Tryz.prog 10 #[.pointer (some ⟨pd, 0, none⟩), .int .i64 0] w fun e w' => ∃ pl, e = .returned (.tuple #[.pointer (some ⟨pl, 0, none⟩), .int .i64 0]) ∧ Going B W pd pl room rs R st lg X X.length n w' ∧ Kept R w w' :=
  (h.own.open 0 ⟨by omega, by omega⟩ h.lim h.op).mono fun e w' ⟨pl, he, ho, hk⟩ => ⟨pl, he, ⟨ho, h.logs, h.up, h.room, h.lim, h.recs, h.n, h.few⟩, hk⟩
theorem Going.crash {B : Nat} {W w w' : World} {pd pl p n : Nat} {room : Int} {rs : List ByteArray} {R : Nat → Prop} {st : St} {lg : Lg} {X : List Sg} (h : Going B W pd pl room rs R st lg X p n w) (hs : Sure st X p) (hu : Upon (fun _ => False) w w') {v : Value} {ks : List Int} {db : Nat} (hk : KeepAt w' v ks db) (hdb : ks ≠ [] → w.heap.size ≤ db ∧ db < w'.heap.size) :
    Calls Tryz.prog 15 #[.pointer (some ⟨pd, 0, none⟩), v] w' fun e w'' => e = .returned (.tuple #[]) ∧ (∃ lg', Fell B W pd room rs R (Dsk.crash st ks) lg' X n w'' ∧ lg'.hand = false ∧ lg'.dur = rs.length) ∧ Kept R w' w'' := by
  obtain ⟨lg', o1, o2, o3, o4, o5, o6, o7⟩ := h.logs.anew hs.p hs.marks ks
  exact (h.own.disk.crash hu hk hdb h.lim).mono fun e w'' ⟨he, ho, hk⟩ => ⟨he, ⟨lg', ⟨ho, o1, o2, hs.marks, o3, o7.trans h.room, h.lim.crash ks, h.recs, h.n, h.few⟩, o5, by rw [o6, h.X.2.2]⟩, hk⟩

theorem begins_last {lg : Lg} {X0 : List Sg} {y : Sg} (h : lg.segs = (X0 ++ [y]).map Sg.seg) : begins lg = (!lg.hand || decide (y.recs.length = 16)) := by
  rw [begins_seg h, List.getLast?_concat]

/-! ### the trial -/
def bA : ByteArray := ⟨#[97]⟩
def bB : ByteArray := ⟨#[98]⟩
def bC : ByteArray := ⟨#[99]⟩
theorem len1 (c : UInt8) : lenF ⟨#[c]⟩ = 7 + nd 1 := by unfold lenF; rw [putA_size]; show 5 + (nd 1 + 1 + 1) = _; omega
theorem nd1 : nd 1 ≤ 8 := nd_le 1

set_option maxHeartbeats 4000000 in
set_option maxRecDepth 100000 in
theorem works_true (B : Nat) (w : World) (hE : Env B w) : Calls Tryz.prog 8 #[] w (Yes w) := by
  have hB := hE.le
  have z1 : ∀ c : UInt8, (⟨#[c]⟩ : ByteArray).size ≤ 1000 := fun c => by simp [ByteArray.size]
  have hnd := nd1
  have r1 : ∀ c : UInt8, (((frs []).length + lenF ⟨#[c]⟩ : Nat) : Int) ≤ 1000 := fun c => by rw [len1]; simp [frs]; omega
  have r2 : ∀ a c : UInt8, (((frs [⟨#[a]⟩]).length + lenF ⟨#[c]⟩ : Nat) : Int) ≤ 1000 := fun a c => by simp only [frs_len, List.map_cons, List.map_nil, List.sum_cons, List.sum_nil, len1]; omega
  have r3 : ∀ a b c : UInt8, (((frs [⟨#[a]⟩, ⟨#[b]⟩]).length + lenF ⟨#[c]⟩ : Nat) : Int) ≤ 1000 := fun a b c => by simp only [frs_len, List.map_cons, List.map_nil, List.sum_cons, List.sum_nil, len1]; omega
  replace z1 := Lib.hid z1
  replace r1 := Lib.hid r1
  replace r2 := Lib.hid r2
  replace r3 := Lib.hid r3
  have HE := Lib.hid hE
  clear hE hnd hB
  go_enter Tryz.func8, Tryz.ntmps8
  go_wp2_with fail
  refine (new_any 1000 ⟨by omega, by omega⟩ w).mono ?_
  intro e w0 hm
  obtain ⟨pd, rfl, h0, -⟩ := DskO.made (R := fun _ => False) HE.out (Below.refl _ w) (fun _ h => h.elim) hm
  have H0 := Lib.hid h0
  clear hm h0
  go_wp2_with fail
  refine (open_new H0.out).mono ?_
  rintro e w1 ⟨pl, rfl, h1, -⟩
  have H1 := Lib.hid h1
  clear h1 H0
  go_wp2_with fail
  refine (H1.out.append ⟨#[97]⟩ (z1.out _) (r1.out _) (by simp) (by simp)).mono ?_
  rintro e w2 ⟨rfl, ⟨st2, lg2, X2, hX2, h2, hh2, -⟩, -⟩
  replace hX2 : X2 = [⟨1, [⟨#[97]⟩], 0, 0, true⟩] := hX2
  subst hX2
  have H2 := Lib.hid h2
  have HH2 := Lib.hid hh2
  clear h2 hh2 H1
  go_wp2_with fail
  refine (H2.out.append ⟨#[98]⟩ (z1.out _) (r2.out _ _) (by simp) (by simp)).mono ?_
  rintro e w3 ⟨rfl, ⟨st3, lg3, X3, hX3, h3, hh3, -⟩, -⟩
  replace hX3 : X3 = [⟨1, [⟨#[97]⟩, ⟨#[98]⟩], 0, 0, true⟩] := by
    rw [hX3, begins_seg H2.out.logs.segs, HH2.out]
    rfl
  subst hX3
  have H3 := Lib.hid h3
  have HH3 := Lib.hid hh3
  clear h3 hh3 H2 HH2
  go_wp2_with fail
  refine H3.out.sync.mono ?_
  rintro e w4 ⟨rfl, X4, h4, hs4, hg4, hd4, hh4, -⟩
  obtain ⟨y, rfl, y1, y2, y3⟩ : ∃ y, X4 = [y] ∧ y.first = 1 ∧ y.recs = [⟨#[97]⟩, ⟨#[98]⟩] ∧ y.sure = (frs y.recs).length := by
    cases hg4 with
    | cons g1 g2 g3 g4 g5 g6 =>
      cases g6
      exact ⟨_, rfl, g1, g2, h4.logs.marks _ (by simp) (hs4.marks _ (by simp))⟩
  have H4 := Lib.hid h4
  have HH4 := Lib.hid (hh4.trans HH3.out)
  have HD4 := Lib.hid hd4
  clear h4 hh4 hs4 hg4 hd4 H3 HH3
  generalize (syncL lg3 st3).st = st4 at *
  generalize (syncL lg3 st3).lg = lg4 at *
  go_wp2_with fail
  refine (H4.out.append ⟨#[99]⟩ (z1.out _) (r3.out _ _ _) (by simp) (by simp)).mono ?_
  rintro e w5 ⟨rfl, ⟨st5, lg5, X5, hX5, h5, hh5, hd5⟩, -⟩
  replace hX5 : X5 = [{ y with recs := y.recs ++ [⟨#[99]⟩], marked := true }] := by
    rw [hX5, begins_last (X0 := []) H4.out.logs.segs, HH4.out, y2]
    show [({ y with recs := y.recs ++ [⟨#[99]⟩], marked := true } : Sg)] = _
    rw [y2]
  subst hX5
  obtain ⟨lg', st', o1, o2, o3, o4, oC, o5, o6⟩ := h5.logs.behind []
  have hdur : lg5.dur = 2 := by rw [hd5, HD4.out]; rfl
  have hle := o6 rfl _ rfl rfl 2 (by show 2 ≤ (y.recs ++ [_]).length; rw [y2]; simp) (by show y.sure = (frs ((y.recs ++ [_]).take 2)).length; rw [y3, y2]; rfl)
  have hlast : lg'.last = 2 := by omega
  have HR := Lib.hid (o5 1 ⟨#[98]⟩ (by omega) (by rw [recsOf_cons, recsOf_nil, List.append_nil]; show (y.recs ++ [_])[1]? = _; rw [y2]; rfl))
  have HC := Lib.hid (h5.own.disk.crash (w' := w5) (Upon.refl _ _) (KeepAt.nil _ 0) (fun h => absurd rfl h) h5.lim)
  have HL := Lib.hid (h5.lim.crash [])
  have HO := Lib.hid o1
  have HF := Lib.hid o4
  have HC0 := Lib.hid oC
  have HLA := Lib.hid hlast
  clear h5 hh5 hd5 o1 o2 o3 o4 oC o5 o6 hle hdur hlast H4 HH4 HD4 y1 y2 y3
  go_wp2_with fail
  refine HC.out.mono ?_
  rintro e w6 ⟨rfl, h6, -⟩
  have H6 := Lib.hid h6
  clear h6 HC
  go_wp2_with fail
  refine (H6.out.open 0 ⟨by omega, by omega⟩ HL.out HO.out).mono ?_
  rintro e w7 ⟨pl7, rfl, h7, -⟩
  have H7 := Lib.hid h7
  have HLM := Lib.hid (show Lim st' _ from ⟨by rw [HF.out]; exact HL.out.file, by rw [HC0.out]; exact Nat.zero_le _, HL.out.n⟩)
  clear h7 H6
  go_wp2_with fail
  have hrd := H7.out.read 2 ⟨by omega, by omega⟩ HLM.out
  rw [show readL st' 2 lg'.segs = (⟨#[98]⟩, 0) from HR.out] at hrd
  refine hrd.mono ?_
  clear hrd
  rintro e w8 ⟨rfl, h8, -⟩
  have H8 := Lib.hid h8
  have hla := h8.last
  rw [HLA.out] at hla
  have HLS := Lib.hid hla
  clear h8 hla H7 HR HLA HO
  go_wp2_with fail
  refine HLS.out.mono ?_
  rintro e w9 ⟨rfl, rfl⟩
  clear HLS
  go_wp2
  go_ret
  exact ⟨rfl, H8.out.below⟩
end Wal
end Go.Proofs.YtlgjbdfnhaoloaaGreatDoor
