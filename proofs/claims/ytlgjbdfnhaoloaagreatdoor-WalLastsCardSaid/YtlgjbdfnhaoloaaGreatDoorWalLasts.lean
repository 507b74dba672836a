/- The law WalLasts (layer 5), walked. -/
import Derived.Test.YtlgjbdfnhaoloaaGreatDoorWalOnLaw
import Derived.Maps.AppendAt
set_option linter.unusedSimpArgs false
set_option linter.unusedVariables false
namespace Go.Proofs.YtlgjbdfnhaoloaaGreatDoor
open Go.RowKit Go.Sort
namespace Wal
open Dig Frm Dsk

theorem Hold.of {st st' : St} {f : Nat} {X : List Sg} (h : Hold st f X) (hN : st'.N = st.N) (hF : st'.F = st.F) : Hold st' f X := h.congr hN hF
theorem Logs.congr {st st' : St} {lg : Lg} {f p : Nat} {X : List Sg} (h : Logs st lg f X p) (hN : st'.N = st.N) (hF : st'.F = st.F) (hL : st'.L = st.L) (hC : st'.C = st.C) : Logs st' lg f X p := { h with hold := h.hold.congr hN hF, L := hL.trans h.L, C := hC.trans h.C }
theorem fuse_parts (st : St) (n : Int) : (Dsk.fuse st n).N = st.N ∧ (Dsk.fuse st n).F = st.F ∧ (Dsk.fuse st n).L = st.L ∧ (Dsk.fuse st n).C = st.C ∧ (Dsk.fuse st n).room = st.room := by
  unfold Dsk.fuse; split <;> exact ⟨rfl, rfl, rfl, rfl, rfl⟩

/-- A fuse beneath an open log. -/
theorem LgO.fuse {B : Nat} {W w : World} {pd pl : Nat} {st : St} {lg : Lg} {R : Nat → Prop} (h : LgO B W pd pl st lg R w) (n : Int) (hn : -9223372036854775808 ≤ n ∧ n ≤ 9223372036854775807) :
    Calls Tryz.prog 11 #[.pointer (some ⟨pd, 0, none⟩), .int .i64 n] w fun e w' => e = .returned (.tuple #[]) ∧ LgO B W pd pl (Dsk.fuse st n) lg R w' ∧ Kept R w w' := by
  obtain ⟨⟨S, ⟨T, l, v, h1, hl⟩, h2⟩, h3, h4⟩ := h
  exact (h1.step (P := fun e => e = .returned (.tuple #[])) fun Sd hd => fuse_any Sd pd st n hn w hd).mono fun e w' ⟨he, hf, hk, _⟩ => ⟨he, LgO.step h3 h4 h2 (LStep.of hf (hl.kept hk))⟩

/-- A log with these records, the disk with power or without. -/
structure Run (B : Nat) (W : World) (pd pl : Nat) (rs : List ByteArray) (R : Nat → Prop) (st : St) (lg : Lg) (X : List Sg) (p n : Nat) (w : World) : Prop where
  own : LgO B W pd pl st lg R w
  logs : Logs st lg 1 X p
  room : st.room = 1048576
  lim : Lim st n
  recs : recsOf X = rs
  n : n ≤ rs.length
  few : rs.length ≤ 1000
theorem Run.X {B : Nat} {W w : World} {pd pl p n : Nat} {rs : List ByteArray} {R : Nat → Prop} {st : St} {lg : Lg} {X : List Sg} (h : Run B W pd pl rs R st lg X p n w) : X.length ≤ rs.length ∧ st.C.length ≤ rs.length ∧ lg.last = rs.length := by
  have h1 := chain_len h.logs.hold.chain
  rw [h.recs] at h1
  have h2 := h.logs.last
  rw [h.recs] at h2
  refine ⟨h1, ?_, by omega⟩
  rw [h.logs.C, List.length_map, List.length_drop]; omega
def RunE (B : Nat) (W : World) (pd pl : Nat) (rs : List ByteArray) (R : Nat → Prop) (w : World) : Prop := ∃ st lg X p n, Run B W pd pl rs R st lg X p n w
theorem RunE.below {B : Nat} {W w : World} {pd pl : Nat} {rs : List ByteArray} {R : Nat → Prop} (h : RunE B W pd pl rs R w) : Below W.heap.size W w := by
  obtain ⟨_, _, _, _, _, h⟩ := h; exact h.own.below
theorem RunE.append {B : Nat} {W w : World} {pd pl : Nat} {rs : List ByteArray} {R : Nat → Prop} (h : RunE B W pd pl rs R w) (s : ByteArray) (hs : s.size ≤ 1000) (hsm : ∀ r ∈ rs, r.size ≤ 1000) (hf : rs.length < 64) :
    Calls Tryz.prog 12 #[.pointer (some ⟨pl, 0, none⟩), .string s] w fun e w' =>
      ((e = .returned (.tuple #[.int .i64 ((rs.length : Int) + 1), .int .i64 0]) ∧ RunE B W pd pl (rs ++ [s]) R w') ∨ (e = .returned (.tuple #[.int .i64 0, .int .i64 11]) ∧ RunE B W pd pl rs R w')) ∧ Kept R w w' := by
  obtain ⟨st, lg, X, p, n, h⟩ := h
  obtain ⟨x1, x2, x3⟩ := h.X
  have hn := h.n
  have hc := h.own.append s (by omega) h.lim (h.logs.slim (by rw [h.recs]; omega))
  cases hw : wrB st with
  | true =>
    have hr : (((frs (recsOf X)).length + lenF s : Nat) : Int) ≤ st.room := by
      rw [h.recs, h.room]
      have q1 := frs_le rs hsm
      have q2 := lenF_le s hs
      omega
    obtain ⟨a1, a2, a3, a4, a5, a6, a7, a8, a9⟩ := h.logs.append s hs hw hr (by omega) (by omega)
    refine hc.mono fun e w' ⟨he, ho, hk⟩ => ⟨.inl ⟨?_, _, _, _, _, n + 1, ho, a3, by rw [a5, h.room], h.lim.append (by omega) lg s hs (by omega), by rw [a4, h.recs], by rw [List.length_append, List.length_singleton]; omega, by rw [List.length_append, List.length_singleton]; omega⟩, hk⟩
    rw [he, a1, a2, x3]
    rfl
  | false =>
    have hd := append_dead lg s hs hw (by omega)
    rw [hd] at hc
    refine hc.mono fun e w' ⟨he, ho, hk⟩ => ⟨.inr ⟨he, wrS st, lg, X, p, n, ho, h.logs.wr, by rw [wrS_room]; exact h.room, h.lim.wr, h.recs, h.n, h.few⟩, hk⟩
theorem RunE.sync {B : Nat} {W w : World} {pd pl : Nat} {rs : List ByteArray} {R : Nat → Prop} (h : RunE B W pd pl rs R w) :
    Calls Tryz.prog 13 #[.pointer (some ⟨pl, 0, none⟩)] w fun e w' => ∃ x, e = .returned (.int .i64 x) ∧ RunE B W pd pl rs R w' ∧ Kept R w w' := by
  obtain ⟨st, lg, X, p, n, h⟩ := h
  obtain ⟨X', p', k⟩ := h.logs.sync
  exact h.own.sync.mono fun e w' ⟨he, ho, hk⟩ => ⟨_, he, ⟨_, _, X', p', n, ho, k.logs, k.room.trans h.room, h.lim.syncL lg, by rw [k.grew.recs, h.recs], h.n, h.few⟩, hk⟩
theorem RunE.fuse {B : Nat} {W w : World} {pd pl : Nat} {rs : List ByteArray} {R : Nat → Prop} (h : RunE B W pd pl rs R w) (n : Int) (hn : -9223372036854775808 ≤ n ∧ n ≤ 9223372036854775807) :
    Calls Tryz.prog 11 #[.pointer (some ⟨pd, 0, none⟩), .int .i64 n] w fun e w' => e = .returned (.tuple #[]) ∧ RunE B W pd pl rs R w' ∧ Kept R w w' := by
  obtain ⟨st, lg, X, p, m, h⟩ := h
  obtain ⟨f1, f2, f3, f4, f5⟩ := fuse_parts st n
  exact (h.own.fuse n hn).mono fun e w' ⟨he, ho, hk⟩ => ⟨he, ⟨_, _, X, p, m, ho, h.logs.congr f1 f2 f3 f4, f5.trans h.room, h.lim.of f2 (by rw [f4]; exact h.lim.chs), h.recs, h.n, h.few⟩, hk⟩
theorem Going.run {B : Nat} {W w : World} {pd pl p n : Nat} {rs : List ByteArray} {R : Nat → Prop} {st : St} {lg : Lg} {X : List Sg} (h : Going B W pd pl 1048576 rs R st lg X p n w) : RunE B W pd pl rs R w :=
  ⟨_, _, _, _, _, h.own, h.logs, h.room, h.lim, h.recs, h.n, h.few⟩

/-- Texts read so far, in a block of the call's own. -/
def strV (l : List ByteArray) : List Value := l.map Value.string
/-- At the head of each round. -/
structure Lst (B : Nat) (W : World) (pd pl k : Nat) (rs : List ByteArray) (v : Value) (w : World) : Prop where
  run : RunE B W pd pl rs (fun b => v.ownBlock = some b) w
  row : w.ownsRow W.heap.size 9 1 v rs.length (strV rs)
  len : rs.length ≤ k
  small : ∀ r ∈ rs, r.size ≤ 1000
theorem Lst.kept {B : Nat} {W w w' : World} {pd pl k : Nat} {rs : List ByteArray} {v : Value} (h : Lst B W pd pl k rs v w) (hr : RunE B W pd pl rs (fun b => v.ownBlock = some b) w') (hk : Kept (fun b => v.ownBlock = some b) w w') {k' : Nat} (hkk : k ≤ k') : Lst B W pd pl k' rs v w' :=
  ⟨hr, ownsRow_kept h.row hk.1, Nat.le_trans h.len hkk, h.small⟩
theorem infoStr : (Tryz.prog.info? 9).map (fun i => (i.zero, i.size, i.bytes)) = some (some (.string ByteArray.empty), 1, 16) := by kernel_rfl
/-- One text more is put behind the others. -/
theorem Lst.push {B : Nat} {W w w5 : World} {pd pl k : Nat} {rs : List ByteArray} {v v' : Value} {s : ByteArray} (hB : B ≤ W.heap.size) (hs : s.size ≤ 1000) (hsm : ∀ r ∈ rs, r.size ≤ 1000) (hl : rs.length ≤ k)
    (hrow0 : w.ownsRow W.heap.size 9 1 v rs.length (strV rs)) (hr : RunE B W pd pl (rs ++ [s]) (fun b => v.ownBlock = some b) w)
    (hrow : w5.ownsRow W.heap.size 9 1 v' (rs.length + 1) (strV rs ++ [.string s])) (hg : (w.alloc (.cells #[.string s] 9 (0, 0))).grownBy w5 v.ownBlock) (hv' : v'.ownBlock = v.ownBlock ∨ v'.ownBlock = some (w.heap.size + 1)) :
    Lst B W pd pl (k + 1) (rs ++ [s]) v' w5 := by
  have hlow : ∀ b, v.ownBlock = some b → W.heap.size ≤ b := fun b hb => (hrow0.lt b hb).1
  have hu : Upon (fun b => v.ownBlock = some b) w w5 := ((Upon.refl _ w).alloc _).grown hg fun k hk => .inl hk
  obtain ⟨st, lg, X, p, n, h⟩ := hr
  have h5 := h.own.side hu hlow hB
  refine ⟨⟨st, lg, X, p, n, { h with own := h5.narrow ?_ }⟩, by rw [List.length_append, List.length_singleton]; simpa [strV] using hrow, by rw [List.length_append, List.length_singleton]; omega, fun r hr => ?_⟩
  · intro b hb
    rcases hv' with e | e
    · rw [e] at hb; exact .inl hb
    · have hlt := (hrow.lt b hb).2
      rw [e] at hb
      have := Option.some.inj hb
      refine .inr ⟨?_, hlt⟩
      omega
  · rcases List.mem_append.1 hr with hr | hr
    · exact hsm r hr
    · simp at hr; subst hr; exact hs
/-- Behind a crash, and Open. -/
theorem RunE.durable {B : Nat} {W w : World} {pd pl p n : Nat} {rs : List ByteArray} {R : Nat → Prop} {st : St} {lg : Lg} {X : List Sg} (h : Run B W pd pl rs R st lg X p n w) :
    Calls Tryz.prog 14 #[.pointer (some ⟨pl, 0, none⟩)] w fun e w' => e = .returned (.int .i64 (lg.dur : Int)) ∧ w = w' := h.own.durable
structure Rest (B : Nat) (W : World) (pd pl : Nat) (rs : List ByteArray) (R : Nat → Prop) (d : Nat) (st : St) (lg : Lg) (n : Nat) (w : World) : Prop where
  own : LgO B W pd pl st lg R w
  lim : Lim st n
  lo : d ≤ lg.last
  hi : lg.last ≤ rs.length
  few : rs.length ≤ 1000
  reads : ∀ (j : Nat) (r : ByteArray), j < lg.last → rs[j]? = some r → readL st ((1 + j : Nat) : Int) lg.segs = (r, 0)
theorem Run.crash {B : Nat} {W w w' : World} {pd pl p n : Nat} {rs : List ByteArray} {R : Nat → Prop} {st : St} {lg : Lg} {X : List Sg} (h : Run B W pd pl rs R st lg X p n w) (hu : Upon (fun _ => False) w w') {v : Value} {ks : List Int} {db : Nat} (hk : KeepAt w' v ks db) (hdb : ks ≠ [] → w.heap.size ≤ db ∧ db < w'.heap.size) :
    Calls Tryz.prog 15 #[.pointer (some ⟨pd, 0, none⟩), v] w' fun e w'' => e = .returned (.tuple #[]) ∧ DskO B W pd (Dsk.crash st ks) R w'' ∧ Kept R w' w'' :=
  h.own.disk.crash hu hk hdb h.lim
theorem Run.open {B : Nat} {W w w'' : World} {pd pl p n : Nat} {rs : List ByteArray} {R : Nat → Prop} {st : St} {lg : Lg} {X : List Sg} (h : Run B W pd pl rs R st lg X p n w) (ks : List Int) (hd : DskO B W pd (Dsk.crash st ks) R w'') :
    Calls Tryz.prog 10 #[.pointer (some ⟨pd, 0, none⟩), .int .i64 0] w'' fun e w3 => ∃ pl' st' lg', e = .returned (.tuple #[.pointer (some ⟨pl', 0, none⟩), .int .i64 0]) ∧ Rest B W pd pl' rs R lg.dur st' lg' n w3 ∧ Kept R w'' w3 := by
  obtain ⟨lg', st', o1, o2, o3, o4, oC, o5, -⟩ := h.logs.behind ks
  rw [h.recs] at o5
  have hl := h.lim.crash ks
  exact (hd.open 0 ⟨by omega, by omega⟩ hl o1).mono fun e w3 ⟨pl', he, ho, hk⟩ => ⟨pl', st', lg', he, ⟨ho, ⟨by rw [o4]; exact hl.file, by rw [oC]; exact Nat.zero_le _, hl.n⟩, o2, by rw [← h.X.2.2]; exact o3, h.few, o5⟩, hk⟩
theorem Rest.read {B : Nat} {W w : World} {pd pl n d : Nat} {rs : List ByteArray} {R : Nat → Prop} {st : St} {lg : Lg} (h : Rest B W pd pl rs R d st lg n w) (i : Int) (j : Nat) (hij : i = (j : Int) + 1) (hj : j < lg.last) (r : ByteArray) (hr : rs[j]? = some r) :
    Calls Tryz.prog 17 #[.pointer (some ⟨pl, 0, none⟩), .int .i64 i] w fun e w' => e = .returned (.tuple #[.string r, .int .i64 0]) ∧ Rest B W pd pl rs R d st lg n w' ∧ Kept R w w' := by
  have hi := h.hi
  have hf := h.few
  have hc := h.own.read ((1 + j : Nat) : Int) ⟨by omega, by omega⟩ h.lim
  rw [h.reads j r hj hr] at hc
  have e : i = ((1 + j : Nat) : Int) := by omega
  rw [e]
  exact hc.mono fun e w' ⟨he, ho, hk⟩ => ⟨he, { h with own := ho }, hk⟩

/-- What stands in a row of bools at a place: true, false, or nothing. -/
theorem bool_cases {w : World} {a1 : Option Addr} {c1 : Nat} {bs : List Bool} {b1 : Nat} (h : BoolsAt w (.slice a1 bs.length c1) bs b1) (k : Nat) :
    (∃ o x, a1 = some ⟨b1, o, none⟩ ∧ w.cell? ⟨b1, o + k, none⟩ = some (.bool x) ∧ k < bs.length) ∨ ¬ k < bs.length := by
  by_cases hk : k < bs.length
  · obtain ⟨a', c', e1, -, e3⟩ := h
    obtain ⟨rfl, -, rfl⟩ : a1 = a' ∧ True ∧ c1 = c' := by simpa using e1
    obtain ⟨o, rfl, hc⟩ := e3 (by intro e; rw [e] at hk; simp at hk)
    exact .inl ⟨o, bs[k], rfl, hc k _ (List.getElem?_eq_getElem hk), hk⟩
  · exact .inr hk
theorem own_slice {w : World} {base size n : Nat} {e : TypeId} {v : Value} {xs : List Value} (h : w.ownsRow base e size v n xs) : ∃ a c, v = .slice a n c := by
  rcases h.2 with ⟨h1, h2⟩ | ⟨_, _, _, e, _⟩
  · exact ⟨none, 0, by rw [h1, h2]⟩
  · exact ⟨_, _, e⟩

set_option maxHeartbeats 16000000 in
set_option maxRecDepth 100000 in
theorem lasts_any (W : World) (v0 v1 v3 : Value) (fu : Int) (hfu : -9223372036854775808 ≤ fu ∧ fu ≤ 9223372036854775807) (ss : List ByteArray) (bs : List Bool) (ks : List Int) (b0 b1 b3 : Nat) (h0 : StrsAt W v0 ss b0) (hb0 : ss ≠ [] → b0 < W.heap.size) (h1 : BoolsAt W v1 bs b1) (hb1 : bs ≠ [] → b1 < W.heap.size)
    (h3 : KeepAt W v3 ks b3) (hb3 : ks ≠ [] → b3 < W.heap.size) (hks : ks.length * 8 ≤ 140737488355328) (hE : Env W.heap.size W) :
    Calls Tryz.prog 3 #[v0, v1, .int .i64 fu, v3] W (Yes W) := by
  have HS := Lib.hid (fun (w : World) (hb : Below W.heap.size W w) => strs_at hb h0 hb0)
  have HB := Lib.hid (fun (w : World) (hb : Below W.heap.size W w) => bools_at hb h1 hb1)
  have HK := Lib.hid h3
  have HKB := Lib.hid hb3
  have HW := Lib.hid (works_true W.heap.size W hE)
  have HE := Lib.hid hE
  have HKS := Lib.hid hks
  obtain ⟨a0, c0, rfl, hl0, -⟩ := h0
  obtain ⟨a1, c1, rfl, hl1, -⟩ := h1
  obtain ⟨a3, c3, rfl, hl3, hl4, -⟩ := h3
  unfold maxLen at hl0 hl1
  clear hE hb0 hb1 hb3 hks
  obtain ⟨i0, hi, hz0, hzz1, hzz2⟩ := info_parts infoStr
  go_enter Tryz.func3, Tryz.ntmps3
  go_wp2_with fail
  refine HW.out.mono ?_
  rintro e w1 ⟨rfl, hb1⟩
  have HB1 := Lib.hid hb1
  clear hb1 HW
  go_wp2_with fail
  refine (new_any 1048576 ⟨by omega, by omega⟩ w1).mono ?_
  intro e w2 hm
  obtain ⟨pd, rfl, hd2, -⟩ := DskO.made (R := fun b => (Value.slice none 0 0).ownBlock = some b) HE.out HB1.out (fun _ h => by cases h) hm
  have H2 := Lib.hid hd2
  clear hm hd2 HB1
  go_wp2_with fail
  refine (open_new H2.out).mono ?_
  rintro e w3 ⟨pl, rfl, hg3, -⟩
  have H3 := Lib.hid (show Lst W.heap.size W pd pl 0 [] (.slice none 0 0) w3 from ⟨hg3.run, World.ownsRow_nil _ _ _ _, Nat.le_refl _, by simp⟩)
  clear hg3 H2
  obtain ⟨H4, HF⟩ : Hid (Lst W.heap.size W pd pl 0 [] (.slice none 0 0) w3) ∧ Hid (0 ≤ fu → Calls Tryz.prog 11 #[.pointer (some ⟨pd, 0, none⟩), .int .i64 (fu % 200)] w3 fun e w' => e = .returned (.tuple #[]) ∧ Lst W.heap.size W pd pl 0 [] (.slice none 0 0) w') := by
    refine ⟨H3, Lib.hid fun hpos => ?_⟩
    exact (H3.out.run.fuse (fu % 200) ⟨by omega, by omega⟩).mono fun e w' ⟨he, hr, hk⟩ => ⟨he, H3.out.kept hr hk (Nat.le_refl 0)⟩
  clear H3
  by_cases hpos : 0 ≤ fu
  · have hd1 : decide (0 ≤ fu) = true := decide_eq_true hpos
    have hwu : IntKind.u64.wrap fu = fu := by rw [IntKind.wrap_u64]; omega
    have hm0 : fu.tmod 200 = fu % 200 := Int.tmod_eq_emod_of_nonneg hpos
    have hwi : IntKind.i64.wrap (fu % 200) = fu % 200 := IntWalk.i64_in _ (by omega)
    have hwt : IntKind.u64.wrap (fu % 200) = fu % 200 := by rw [IntKind.wrap_u64]; omega
    have HFC := Lib.hid (HF.out hpos)
    clear HF H4 hpos
    go_wp2_with fail
    refine HFC.out.mono ?_
    rintro e w4 ⟨rfl, hl4⟩
    have H4 := Lib.hid hl4
    clear hl4 HFC hd1 hwu hm0 hwi hwt
    go_upto_block 0 with fail
    go_cut [12] (fun v wr => ∃ rs : List ByteArray, Lst W.heap.size W pd pl 60 rs v wr)
    case first =>
      go_wp2_with fail
      go_loopw [12, 13] (fun v i wr => ∃ (k : Nat) (rs : List ByteArray), k ≤ ss.length ∧ k ≤ 60 ∧ i = .int .i64 (k : Int) ∧ Lst W.heap.size W pd pl k rs v wr) (fun _ i _ => 60 - (intOf i).toNat)
      case atStart => exact ⟨0, [], Nat.zero_le _, Nat.zero_le _, rfl, H4.out⟩
      case round =>
        obtain ⟨k, rs, hk1, hk2, rfl, hl⟩ := hrel
        clear H4
        have HL0 := Lib.hid hl
        have hbl := hl.run.below
        obtain ⟨av, cv, rfl⟩ := own_slice hl.row
        clear hl
        by_cases hend : k < ss.length ∧ k < 60
        · obtain ⟨hlt, hlt2⟩ := hend
          have hd1 : decide ((k : Int) < (ss.length : Int)) = true := decide_eq_true (by omega)
          have hd2 : decide ((k : Int) < 60) = true := decide_eq_true (by omega)
          obtain ⟨s, hs⟩ : ∃ y, ss[k]? = some y := ⟨_, List.getElem?_eq_getElem hlt⟩
          have hne : ss ≠ [] := by intro e; rw [e] at hlt; simp at hlt
          obtain ⟨a', c', e1, -, e3⟩ := HS.out wr hbl
          obtain ⟨rfl, -, rfl⟩ : a0 = a' ∧ True ∧ c0 = c' := by simpa using e1
          obtain ⟨o, rfl, hcell⟩ := e3 hne
          obtain ⟨hcs, hsz⟩ := hcell k s hs
          unfold maxLen at hsz
          have HSK := Lib.hid hs
          clear e1 e3 hcell hs
          by_cases hbig : 1000 < s.size
          · have HQ := Lib.hid (show Yes W (.returned (.bool true)) wr from ⟨rfl, hbl⟩)
            have hd3 : decide ((1000 : Int) < (s.size : Int)) = true := decide_eq_true (by omega)
            clear hbl HL0
            go_wp2_with fail
            go_ret
            exact HQ.out
          · have hd3 : decide ((1000 : Int) < (s.size : Int)) = false := decide_eq_false (by omega)
            have hlen := HL0.out.len
            have HA := Lib.hid (HL0.out.run.append s (by omega) HL0.out.small (by omega))
            have HLEN := Lib.hid hlen
            have HSZ := Lib.hid (show s.size ≤ 1000 by omega)
            clear hlen hbl
            go_wp2_with fail
            refine HA.out.mono ?_
            rintro e w5 ⟨⟨rfl, hr5⟩ | ⟨rfl, hr5⟩, hk5⟩
            · have HR5 := Lib.hid hr5
              have HROW := Lib.hid (ownsRow_kept HL0.out.row hk5.1)
              have hcs5 : w5.cell? ⟨b0, o + k, none⟩ = some (.string s) := by
                obtain ⟨a', c', e1, -, e3⟩ := HS.out w5 hr5.below
                obtain ⟨h5o, -, rfl⟩ : some ⟨b0, o, none⟩ = a' ∧ True ∧ c0 = c' := by simpa using e1
                obtain ⟨o', rfl, hcell⟩ := e3 hne
                obtain rfl : o = o' := by simpa using h5o
                exact (hcell k s HSK.out).1
              have HPU := Lib.hid (fun v' w6 h1 h2 h3 => Lst.push (k := k) (v' := v') (w5 := w6) (Nat.le_refl _) HSZ.out HL0.out.small HLEN.out HROW.out HR5.out h1 h2 h3)
              have HWZ := Lib.hid (show W.heap.size ≤ (w5.alloc (.cells #[.string s] 9 (0, 0))).heap.size from by have := hr5.below.size; simp; omega)
              clear hr5 hk5 HA hcs
              go_wp2_with (at_builtin; refine wpList_append_own_at _ rfl _ _ 22 rfl W.heap.size 9 i0 (.string ByteArray.empty) 1 16 Tryz.underlying22 hi hz0 hzz1 hzz2 rfl (by decide) _ _ _ rfl (HROW.out.alloc _) ⟨_, 0, none⟩ 1 1 [_] rfl rfl (cell_one_new _ _ _) (by simp [Value.oneCell']) (by have := HLEN.out; unfold maxLen; omega) (by have := HLEN.out; omega) HWZ.out ?_)
              intro v' w6 hrow hg _ hv'
              have hl6 := HPU.out v' w6 hrow hg hv'
              obtain ⟨av', cv', rfl⟩ := own_slice hrow
              have HL := Lib.hid hl6
              have hbo := bool_cases (HB.out w6 hl6.run.below) k
              clear hrow hg hv' hl6 HPU HWZ HROW HR5 HL0 hcs5
              rcases hbo with ⟨o2, x, rfl, hcb, hkb⟩ | hkb
              · have hd4 : decide ((k : Int) < (bs.length : Int)) = true := decide_eq_true (by omega)
                cases x with
                | true =>
                  have HSY := Lib.hid HL.out.run.sync
                  go_wp2_with fail
                  refine HSY.out.mono ?_
                  rintro e w7 ⟨x, rfl, hr7, hk7⟩
                  have HL7 := Lib.hid (HL.out.kept hr7 hk7 (Nat.le_refl _))
                  clear hr7 hk7 HSY HL hcb
                  go_wp2_with fail
                  go_roundw
                  case rel => exact ⟨k + 1, _, by omega, by omega, by go_num, HL7.out⟩
                  case measure => simp [intOf]; omega
                | false =>
                  go_wp2_with fail
                  go_roundw
                  case rel => exact ⟨k + 1, _, by omega, by omega, by go_num, HL.out⟩
                  case measure => simp [intOf]; omega
              · have hd4 : decide ((k : Int) < (bs.length : Int)) = false := decide_eq_false (by omega)
                go_wp2_with fail
                go_roundw
                case rel => exact ⟨k + 1, _, by omega, by omega, by go_num, HL.out⟩
                case measure => simp [intOf]; omega
            · have hl5 := HL0.out.kept hr5 hk5 (Nat.le_succ k)
              have HL := Lib.hid hl5
              have hbo := bool_cases (HB.out w5 hl5.run.below) k
              clear hl5 hr5 hk5 HA HL0 hcs
              rcases hbo with ⟨o2, x, rfl, hcb, hkb⟩ | hkb
              · have hd4 : decide ((k : Int) < (bs.length : Int)) = true := decide_eq_true (by omega)
                cases x with
                | true =>
                  have HSY := Lib.hid HL.out.run.sync
                  go_wp2_with fail
                  refine HSY.out.mono ?_
                  rintro e w7 ⟨x, rfl, hr7, hk7⟩
                  have HL7 := Lib.hid (HL.out.kept hr7 hk7 (Nat.le_refl _))
                  clear hr7 hk7 HSY HL hcb
                  go_wp2_with fail
                  go_roundw
                  case rel => exact ⟨k + 1, _, by omega, by omega, by go_num, HL7.out⟩
                  case measure => simp [intOf]; omega
                | false =>
                  go_wp2_with fail
                  go_roundw
                  case rel => exact ⟨k + 1, _, by omega, by omega, by go_num, HL.out⟩
                  case measure => simp [intOf]; omega
              · have hd4 : decide ((k : Int) < (bs.length : Int)) = false := decide_eq_false (by omega)
                go_wp2_with fail
                go_roundw
                case rel => exact ⟨k + 1, _, by omega, by omega, by go_num, HL.out⟩
                case measure => simp [intOf]; omega
        · clear hbl
          have HL := Lib.hid (show Lst W.heap.size W pd pl 60 rs (.slice av rs.length cv) wr from ⟨HL0.out.run, HL0.out.row, Nat.le_trans HL0.out.len hk2, HL0.out.small⟩)
          by_cases hlt : k < ss.length
          · have hd1 : decide ((k : Int) < (ss.length : Int)) = true := decide_eq_true (by omega)
            have hd2 : decide ((k : Int) < 60) = false := decide_eq_false (by omega)
            clear hend HL0
            go_wp2_with fail
            go_meet
            exact ⟨rs, HL.out⟩
          · have hd1 : decide ((k : Int) < (ss.length : Int)) = false := decide_eq_false (by omega)
            clear hend HL0
            go_wp2_with fail
            go_meet
            exact ⟨rs, HL.out⟩
    obtain ⟨rs, hl⟩ := hcut
    clear H4
    obtain ⟨av, cv, rfl⟩ := own_slice hl.row
    have HLR := Lib.hid hl
    have hblc := hl.run.below
    obtain ⟨st, lg, X, p, n, hr⟩ := hl.run
    have HR := Lib.hid hr
    have HDU := Lib.hid hr.own.durable
    have hkg : KeepAt (wc.alloc (.cells #[] 3 (0, 0))) (.slice a3 ks.length c3) ks b3 := HK.out.kept fun hn => (Below.heap_alloc _ _ _ (Nat.lt_of_lt_of_le (HKB.out hn) hblc.size)).trans (hblc.block b3 (HKB.out hn))
    have HKG := Lib.hid hkg
    have HROW := Lib.hid hl.row
    clear hl hr hkg hblc
    go_wp2_with fail
    refine HDU.out.mono ?_
    rintro e w5 ⟨rfl, rfl⟩
    clear HDU
    go_wp2_with (at_builtin; refine wpList_copyz _ rfl _ _ rfl wc.heap.size (cell_new wc _) _ ks b3 rfl rfl HKG.out HKS.out ?_)
    intro v' db' wk hkk hup hnew
    have hua : Upon (fun _ => False) wc wk := Upon.trans (Upon.alloc (Upon.refl _ _) _) hup
    have hcr := HR.out.crash hua hkk (fun hn => by have := (hnew hn).1; have := (hnew hn).2; simp at *; omega)
    have HCR := Lib.hid hcr
    have HROWK := Lib.hid (ownsRow_kept HROW.out fun b hb => hua.block b (HROW.out.lt b hb).2 id)
    obtain ⟨va, vn, vc, rfl⟩ : ∃ a n c, v' = .slice a n c := by obtain ⟨a, c, e, _⟩ := hkk; exact ⟨a, _, c, e⟩
    clear hkk hup hnew hua hcr HKG HROW
    go_wp2_with fail
    refine HCR.out.mono ?_
    rintro e w6 ⟨rfl, hd6, hk6⟩
    have HO := Lib.hid (HR.out.open ks hd6)
    have HROW6 := Lib.hid (ownsRow_kept HROWK.out hk6.1)
    clear hd6 hk6 HCR HROWK
    go_wp2_with fail
    refine HO.out.mono ?_
    rintro e w7 ⟨pl', st', lg', rfl, hrs, hk7⟩
    have HRS := Lib.hid hrs
    have HROW7 := Lib.hid (ownsRow_kept HROW6.out hk7.1)
    have HLA := Lib.hid hrs.own.last
    have hlo := hrs.lo
    have hhi := hrs.hi
    have hlo' : ¬ ((lg'.last : Int) < (lg.dur : Int)) := by omega
    have hhi' : ¬ ((rs.length : Int) < (lg'.last : Int)) := by omega
    have hd5 : decide ((lg'.last : Int) < (lg.dur : Int)) = false := decide_eq_false hlo'
    have hd5n : decide (lg'.last < lg.dur) = false := decide_eq_false (by omega)
    have hd6n : decide (rs.length < lg'.last) = false := decide_eq_false (by omega)
    have hd6 : decide ((rs.length : Int) < (lg'.last : Int)) = false := decide_eq_false hhi'
    clear hrs hk7 HO HROW6 HR
    go_wp2_with fail
    refine HLA.out.mono ?_
    rintro e w8 ⟨rfl, rfl⟩
    go_wp2_with fail
    refine HLA.out.mono ?_
    rintro e w8 ⟨rfl, rfl⟩
    clear HLA
    go_wp2_with fail
    go_loopw [17] (fun i wx => ∃ j : Nat, j ≤ lg'.last ∧ i = .int .i64 ((j : Int) + 1) ∧ Rest W.heap.size W pd pl' rs (fun b => (Value.slice av rs.length cv).ownBlock = some b) lg.dur st' lg' n wx ∧ wx.ownsRow W.heap.size 9 1 (.slice av rs.length cv) rs.length (strV rs)) (fun i _ => lg'.last + 1 - (intOf i).toNat)
    case atStart => exact ⟨0, Nat.zero_le _, rfl, HRS.out, HROW7.out⟩
    case round =>
      obtain ⟨j, hj, rfl, hrx, hrow⟩ := hrel
      clear HRS HROW7
      have HRX := Lib.hid hrx
      have HROWX := Lib.hid hrow
      have HLA := Lib.hid hrx.own.last
      have HQ := Lib.hid (show Yes W (.returned (.bool true)) wr from ⟨rfl, hrx.own.below⟩)
      clear hrx hrow
      by_cases hjk : j < lg'.last
      · have hd7 : decide ((j : Int) + 1 ≤ (lg'.last : Int)) = true := decide_eq_true (by omega)
        obtain ⟨s, hs⟩ : ∃ y, rs[j]? = some y := ⟨_, List.getElem?_eq_getElem (by omega)⟩
        have HRD := Lib.hid (HRX.out.read ((j : Int) + 1) j rfl hjk s hs)
        have HSS := Lib.hid hs
        have hjr : j < rs.length := by omega
        have hfew := HRX.out.few
        clear hs HQ
        go_wp2_with fail
        refine HLA.out.mono ?_
        rintro e w8 ⟨rfl, rfl⟩
        clear HLA
        go_wp2_with fail
        refine HRD.out.mono ?_
        rintro e w9 ⟨rfl, hr9, hk9⟩
        have HR9 := Lib.hid hr9
        have hrow9 := ownsRow_kept HROWX.out hk9.1
        have HROW9 := Lib.hid hrow9
        obtain ⟨g, hg⟩ : ∃ g, av = some ⟨g, 0, none⟩ := by
          rcases hrow9.2 with ⟨e, h0⟩ | ⟨g, cap, cur, e, _⟩
          · omega
          · injection e with e1; exact ⟨g, e1⟩
        subst hg
        have hcell := hrow9.cells (show (Value.slice (some ⟨g, 0, none⟩) rs.length cv).ownBlock = some g from rfl) j (.string s) (by unfold strV; rw [List.getElem?_map, HSS.out]; rfl)
        rw [Lib.add_plain, Nat.zero_add] at hcell
        clear hr9 hk9 hrow9 HRD HROWX HRX
        go_wp2_with fail
        go_roundw
        case rel => exact ⟨j + 1, by omega, by go_num, HR9.out, HROW9.out⟩
        case measure => simp [intOf]; omega
      · have hd7 : decide ((j : Int) + 1 ≤ (lg'.last : Int)) = false := decide_eq_false (by omega)
        clear HROWX HRX
        go_wp2_with fail
        refine HLA.out.mono ?_
        rintro e w8 ⟨rfl, rfl⟩
        clear HLA
        go_wp2_with fail
        go_ret
        exact HQ.out
  · have hd1 : decide (0 ≤ fu) = false := decide_eq_false hpos
    clear HF
    go_upto_block 0 with fail
    go_cut [12] (fun v wr => ∃ rs : List ByteArray, Lst W.heap.size W pd pl 60 rs v wr)
    case first =>
      go_wp2_with fail
      go_loopw [12, 13] (fun v i wr => ∃ (k : Nat) (rs : List ByteArray), k ≤ ss.length ∧ k ≤ 60 ∧ i = .int .i64 (k : Int) ∧ Lst W.heap.size W pd pl k rs v wr) (fun _ i _ => 60 - (intOf i).toNat)
      case atStart => exact ⟨0, [], Nat.zero_le _, Nat.zero_le _, rfl, H4.out⟩
      case round =>
        obtain ⟨k, rs, hk1, hk2, rfl, hl⟩ := hrel
        clear H4
        have HL0 := Lib.hid hl
        have hbl := hl.run.below
        obtain ⟨av, cv, rfl⟩ := own_slice hl.row
        clear hl
        by_cases hend : k < ss.length ∧ k < 60
        · obtain ⟨hlt, hlt2⟩ := hend
          have hd1 : decide ((k : Int) < (ss.length : Int)) = true := decide_eq_true (by omega)
          have hd2 : decide ((k : Int) < 60) = true := decide_eq_true (by omega)
          obtain ⟨s, hs⟩ : ∃ y, ss[k]? = some y := ⟨_, List.getElem?_eq_getElem hlt⟩
          have hne : ss ≠ [] := by intro e; rw [e] at hlt; simp at hlt
          obtain ⟨a', c', e1, -, e3⟩ := HS.out wr hbl
          obtain ⟨rfl, -, rfl⟩ : a0 = a' ∧ True ∧ c0 = c' := by simpa using e1
          obtain ⟨o, rfl, hcell⟩ := e3 hne
          obtain ⟨hcs, hsz⟩ := hcell k s hs
          unfold maxLen at hsz
          have HSK := Lib.hid hs
          clear e1 e3 hcell hs
          by_cases hbig : 1000 < s.size
          · have HQ := Lib.hid (show Yes W (.returned (.bool true)) wr from ⟨rfl, hbl⟩)
            have hd3 : decide ((1000 : Int) < (s.size : Int)) = true := decide_eq_true (by omega)
            clear hbl HL0
            go_wp2_with fail
            go_ret
            exact HQ.out
          · have hd3 : decide ((1000 : Int) < (s.size : Int)) = false := decide_eq_false (by omega)
            have hlen := HL0.out.len
            have HA := Lib.hid (HL0.out.run.append s (by omega) HL0.out.small (by omega))
            have HLEN := Lib.hid hlen
            have HSZ := Lib.hid (show s.size ≤ 1000 by omega)
            clear hlen hbl
            go_wp2_with fail
            refine HA.out.mono ?_
            rintro e w5 ⟨⟨rfl, hr5⟩ | ⟨rfl, hr5⟩, hk5⟩
            · have HR5 := Lib.hid hr5
              have HROW := Lib.hid (ownsRow_kept HL0.out.row hk5.1)
              have hcs5 : w5.cell? ⟨b0, o + k, none⟩ = some (.string s) := by
                obtain ⟨a', c', e1, -, e3⟩ := HS.out w5 hr5.below
                obtain ⟨h5o, -, rfl⟩ : some ⟨b0, o, none⟩ = a' ∧ True ∧ c0 = c' := by simpa using e1
                obtain ⟨o', rfl, hcell⟩ := e3 hne
                obtain rfl : o = o' := by simpa using h5o
                exact (hcell k s HSK.out).1
              have HPU := Lib.hid (fun v' w6 h1 h2 h3 => Lst.push (k := k) (v' := v') (w5 := w6) (Nat.le_refl _) HSZ.out HL0.out.small HLEN.out HROW.out HR5.out h1 h2 h3)
              have HWZ := Lib.hid (show W.heap.size ≤ (w5.alloc (.cells #[.string s] 9 (0, 0))).heap.size from by have := hr5.below.size; simp; omega)
              clear hr5 hk5 HA hcs
              go_wp2_with (at_builtin; refine wpList_append_own_at _ rfl _ _ 22 rfl W.heap.size 9 i0 (.string ByteArray.empty) 1 16 Tryz.underlying22 hi hz0 hzz1 hzz2 rfl (by decide) _ _ _ rfl (HROW.out.alloc _) ⟨_, 0, none⟩ 1 1 [_] rfl rfl (cell_one_new _ _ _) (by simp [Value.oneCell']) (by have := HLEN.out; unfold maxLen; omega) (by have := HLEN.out; omega) HWZ.out ?_)
              intro v' w6 hrow hg _ hv'
              have hl6 := HPU.out v' w6 hrow hg hv'
              obtain ⟨av', cv', rfl⟩ := own_slice hrow
              have HL := Lib.hid hl6
              have hbo := bool_cases (HB.out w6 hl6.run.below) k
              clear hrow hg hv' hl6 HPU HWZ HROW HR5 HL0 hcs5
              rcases hbo with ⟨o2, x, rfl, hcb, hkb⟩ | hkb
              · have hd4 : decide ((k : Int) < (bs.length : Int)) = true := decide_eq_true (by omega)
                cases x with
                | true =>
                  have HSY := Lib.hid HL.out.run.sync
                  go_wp2_with fail
                  refine HSY.out.mono ?_
                  rintro e w7 ⟨x, rfl, hr7, hk7⟩
                  have HL7 := Lib.hid (HL.out.kept hr7 hk7 (Nat.le_refl _))
                  clear hr7 hk7 HSY HL hcb
                  go_wp2_with fail
                  go_roundw
                  case rel => exact ⟨k + 1, _, by omega, by omega, by go_num, HL7.out⟩
                  case measure => simp [intOf]; omega
                | false =>
                  go_wp2_with fail
                  go_roundw
                  case rel => exact ⟨k + 1, _, by omega, by omega, by go_num, HL.out⟩
                  case measure => simp [intOf]; omega
              · have hd4 : decide ((k : Int) < (bs.length : Int)) = false := decide_eq_false (by omega)
                go_wp2_with fail
                go_roundw
                case rel => exact ⟨k + 1, _, by omega, by omega, by go_num, HL.out⟩
                case measure => simp [intOf]; omega
            · have hl5 := HL0.out.kept hr5 hk5 (Nat.le_succ k)
              have HL := Lib.hid hl5
              have hbo := bool_cases (HB.out w5 hl5.run.below) k
              clear hl5 hr5 hk5 HA HL0 hcs
              rcases hbo with ⟨o2, x, rfl, hcb, hkb⟩ | hkb
              · have hd4 : decide ((k : Int) < (bs.length : Int)) = true := decide_eq_true (by omega)
                cases x with
                | true =>
                  have HSY := Lib.hid HL.out.run.sync
                  go_wp2_with fail
                  refine HSY.out.mono ?_
                  rintro e w7 ⟨x, rfl, hr7, hk7⟩
                  have HL7 := Lib.hid (HL.out.kept hr7 hk7 (Nat.le_refl _))
                  clear hr7 hk7 HSY HL hcb
                  go_wp2_with fail
                  go_roundw
                  case rel => exact ⟨k + 1, _, by omega, by omega, by go_num, HL7.out⟩
                  case measure => simp [intOf]; omega
                | false =>
                  go_wp2_with fail
                  go_roundw
                  case rel => exact ⟨k + 1, _, by omega, by omega, by go_num, HL.out⟩
                  case measure => simp [intOf]; omega
              · have hd4 : decide ((k : Int) < (bs.length : Int)) = false := decide_eq_false (by omega)
                go_wp2_with fail
                go_roundw
                case rel => exact ⟨k + 1, _, by omega, by omega, by go_num, HL.out⟩
                case measure => simp [intOf]; omega
        · clear hbl
          have HL := Lib.hid (show Lst W.heap.size W pd pl 60 rs (.slice av rs.length cv) wr from ⟨HL0.out.run, HL0.out.row, Nat.le_trans HL0.out.len hk2, HL0.out.small⟩)
          by_cases hlt : k < ss.length
          · have hd1 : decide ((k : Int) < (ss.length : Int)) = true := decide_eq_true (by omega)
            have hd2 : decide ((k : Int) < 60) = false := decide_eq_false (by omega)
            clear hend HL0
            go_wp2_with fail
            go_meet
            exact ⟨rs, HL.out⟩
          · have hd1 : decide ((k : Int) < (ss.length : Int)) = false := decide_eq_false (by omega)
            clear hend HL0
            go_wp2_with fail
            go_meet
            exact ⟨rs, HL.out⟩
    obtain ⟨rs, hl⟩ := hcut
    clear H4
    obtain ⟨av, cv, rfl⟩ := own_slice hl.row
    have HLR := Lib.hid hl
    have hblc := hl.run.below
    obtain ⟨st, lg, X, p, n, hr⟩ := hl.run
    have HR := Lib.hid hr
    have HDU := Lib.hid hr.own.durable
    have hkg : KeepAt (wc.alloc (.cells #[] 3 (0, 0))) (.slice a3 ks.length c3) ks b3 := HK.out.kept fun hn => (Below.heap_alloc _ _ _ (Nat.lt_of_lt_of_le (HKB.out hn) hblc.size)).trans (hblc.block b3 (HKB.out hn))
    have HKG := Lib.hid hkg
    have HROW := Lib.hid hl.row
    clear hl hr hkg hblc
    go_wp2_with fail
    refine HDU.out.mono ?_
    rintro e w5 ⟨rfl, rfl⟩
    clear HDU
    go_wp2_with (at_builtin; refine wpList_copyz _ rfl _ _ rfl wc.heap.size (cell_new wc _) _ ks b3 rfl rfl HKG.out HKS.out ?_)
    intro v' db' wk hkk hup hnew
    have hua : Upon (fun _ => False) wc wk := Upon.trans (Upon.alloc (Upon.refl _ _) _) hup
    have hcr := HR.out.crash hua hkk (fun hn => by have := (hnew hn).1; have := (hnew hn).2; simp at *; omega)
    have HCR := Lib.hid hcr
    have HROWK := Lib.hid (ownsRow_kept HROW.out fun b hb => hua.block b (HROW.out.lt b hb).2 id)
    obtain ⟨va, vn, vc, rfl⟩ : ∃ a n c, v' = .slice a n c := by obtain ⟨a, c, e, _⟩ := hkk; exact ⟨a, _, c, e⟩
    clear hkk hup hnew hua hcr HKG HROW
    go_wp2_with fail
    refine HCR.out.mono ?_
    rintro e w6 ⟨rfl, hd6, hk6⟩
    have HO := Lib.hid (HR.out.open ks hd6)
    have HROW6 := Lib.hid (ownsRow_kept HROWK.out hk6.1)
    clear hd6 hk6 HCR HROWK
    go_wp2_with fail
    refine HO.out.mono ?_
    rintro e w7 ⟨pl', st', lg', rfl, hrs, hk7⟩
    have HRS := Lib.hid hrs
    have HROW7 := Lib.hid (ownsRow_kept HROW6.out hk7.1)
    have HLA := Lib.hid hrs.own.last
    have hlo := hrs.lo
    have hhi := hrs.hi
    have hlo' : ¬ ((lg'.last : Int) < (lg.dur : Int)) := by omega
    have hhi' : ¬ ((rs.length : Int) < (lg'.last : Int)) := by omega
    have hd5 : decide ((lg'.last : Int) < (lg.dur : Int)) = false := decide_eq_false hlo'
    have hd5n : decide (lg'.last < lg.dur) = false := decide_eq_false (by omega)
    have hd6n : decide (rs.length < lg'.last) = false := decide_eq_false (by omega)
    have hd6 : decide ((rs.length : Int) < (lg'.last : Int)) = false := decide_eq_false hhi'
    clear hrs hk7 HO HROW6 HR
    go_wp2_with fail
    refine HLA.out.mono ?_
    rintro e w8 ⟨rfl, rfl⟩
    go_wp2_with fail
    refine HLA.out.mono ?_
    rintro e w8 ⟨rfl, rfl⟩
    clear HLA
    go_wp2_with fail
    go_loopw [17] (fun i wx => ∃ j : Nat, j ≤ lg'.last ∧ i = .int .i64 ((j : Int) + 1) ∧ Rest W.heap.size W pd pl' rs (fun b => (Value.slice av rs.length cv).ownBlock = some b) lg.dur st' lg' n wx ∧ wx.ownsRow W.heap.size 9 1 (.slice av rs.length cv) rs.length (strV rs)) (fun i _ => lg'.last + 1 - (intOf i).toNat)
    case atStart => exact ⟨0, Nat.zero_le _, rfl, HRS.out, HROW7.out⟩
    case round =>
      obtain ⟨j, hj, rfl, hrx, hrow⟩ := hrel
      clear HRS HROW7
      have HRX := Lib.hid hrx
      have HROWX := Lib.hid hrow
      have HLA := Lib.hid hrx.own.last
      have HQ := Lib.hid (show Yes W (.returned (.bool true)) wr from ⟨rfl, hrx.own.below⟩)
      clear hrx hrow
      by_cases hjk : j < lg'.last
      · have hd7 : decide ((j : Int) + 1 ≤ (lg'.last : Int)) = true := decide_eq_true (by omega)
        obtain ⟨s, hs⟩ : ∃ y, rs[j]? = some y := ⟨_, List.getElem?_eq_getElem (by omega)⟩
        have HRD := Lib.hid (HRX.out.read ((j : Int) + 1) j rfl hjk s hs)
        have HSS := Lib.hid hs
        have hjr : j < rs.length := by omega
        have hfew := HRX.out.few
        clear hs HQ
        go_wp2_with fail
        refine HLA.out.mono ?_
        rintro e w8 ⟨rfl, rfl⟩
        clear HLA
        go_wp2_with fail
        refine HRD.out.mono ?_
        rintro e w9 ⟨rfl, hr9, hk9⟩
        have HR9 := Lib.hid hr9
        have hrow9 := ownsRow_kept HROWX.out hk9.1
        have HROW9 := Lib.hid hrow9
        obtain ⟨g, hg⟩ : ∃ g, av = some ⟨g, 0, none⟩ := by
          rcases hrow9.2 with ⟨e, h0⟩ | ⟨g, cap, cur, e, _⟩
          · omega
          · injection e with e1; exact ⟨g, e1⟩
        subst hg
        have hcell := hrow9.cells (show (Value.slice (some ⟨g, 0, none⟩) rs.length cv).ownBlock = some g from rfl) j (.string s) (by unfold strV; rw [List.getElem?_map, HSS.out]; rfl)
        rw [Lib.add_plain, Nat.zero_add] at hcell
        clear hr9 hk9 hrow9 HRD HROWX HRX
        go_wp2_with fail
        go_roundw
        case rel => exact ⟨j + 1, by omega, by go_num, HR9.out, HROW9.out⟩
        case measure => simp [intOf]; omega
      · have hd7 : decide ((j : Int) + 1 ≤ (lg'.last : Int)) = false := decide_eq_false (by omega)
        clear HROWX HRX
        go_wp2_with fail
        refine HLA.out.mono ?_
        rintro e w8 ⟨rfl, rfl⟩
        clear HLA
        go_wp2_with fail
        go_ret
        exact HQ.out
theorem lasts_true (W : World) (v0 v1 : Value) (fu : Int) (v3 : Value) (o0 : IsStrs v0 W) (o1 : IsBools v1 W) (l : -9223372036854775808 ≤ fu) (u : fu ≤ 9223372036854775807) (o3 : IsIntsZ v3 W) (hE : Env W.heap.size W) :
    Calls Tryz.prog 3 #[v0, v1, .int .i64 fu, v3] W fun e W' => e = .returned (.bool true) ∧ Below W.heap.size W W' := by
  obtain ⟨ss, b0, h0, hb0⟩ := o0
  obtain ⟨bs, b1, h1, hb1⟩ := o1
  obtain ⟨ks, b3, h3, hb3, hks⟩ := o3
  exact lasts_any W v0 v1 v3 fu ⟨l, u⟩ ss bs ks b0 b1 b3 h0 hb0 h1 hb1 h3 hb3 hks hE
end Wal
end Go.Proofs.YtlgjbdfnhaoloaaGreatDoor
