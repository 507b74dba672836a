/- The law WalGoesOn (layer 5), walked. -/
import Derived.Test.YtlgjbdfnhaoloaaGreatDoorWalRun
import Derived.Test.YtlgjbdfnhaoloaaGreatDoorArgRows
set_option linter.unusedSimpArgs false
set_option linter.unusedVariables false
namespace Go.Proofs.YtlgjbdfnhaoloaaGreatDoor
open Go.RowKit Go.Sort
namespace Wal
open Dig Frm Dsk

/-- A log with these records, whatever it stands like. -/
def GoingE (B : Nat) (W : World) (pd pl : Nat) (room : Int) (rs : List ByteArray) (R : Nat → Prop) (w : World) : Prop := ∃ st lg X p n, Going B W pd pl room rs R st lg X p n w
theorem GoingE.below {B : Nat} {W w : World} {pd pl : Nat} {room : Int} {rs : List ByteArray} {R : Nat → Prop} (h : GoingE B W pd pl room rs R w) : Below W.heap.size W w := by
  obtain ⟨_, _, _, _, _, h⟩ := h; exact h.own.below
theorem GoingE.append {B : Nat} {W w : World} {pd pl : Nat} {room : Int} {rs : List ByteArray} {R : Nat → Prop} (h : GoingE B W pd pl room rs R w) (s : ByteArray) (hs : s.size ≤ 1000)
    (hr : (((frs rs).length + lenF s : Nat) : Int) ≤ room) (hf : rs.length < 64) :
    Calls Tryz.prog 12 #[.pointer (some ⟨pl, 0, none⟩), .string s] w fun e w' => e = .returned (.tuple #[.int .i64 ((rs.length : Int) + 1), .int .i64 0]) ∧ GoingE B W pd pl room (rs ++ [s]) R w' ∧ Kept R w w' := by
  obtain ⟨_, _, _, _, _, h⟩ := h
  have hX := h.X.1
  exact (h.append s hs hr (by omega) (by omega)).mono fun e w' ⟨he, ⟨_, _, _, _, h', _, _⟩, hk⟩ => ⟨he, ⟨_, _, _, _, _, h'⟩, hk⟩
def SureE (B : Nat) (W : World) (pd pl : Nat) (room : Int) (rs : List ByteArray) (R : Nat → Prop) (w : World) : Prop := ∃ st lg X p n, Going B W pd pl room rs R st lg X p n w ∧ Sure st X p
theorem SureE.going {B : Nat} {W w : World} {pd pl : Nat} {room : Int} {rs : List ByteArray} {R : Nat → Prop} (h : SureE B W pd pl room rs R w) : GoingE B W pd pl room rs R w := by
  obtain ⟨_, _, _, _, _, h, _⟩ := h; exact ⟨_, _, _, _, _, h⟩
theorem GoingE.sync {B : Nat} {W w : World} {pd pl : Nat} {room : Int} {rs : List ByteArray} {R : Nat → Prop} (h : GoingE B W pd pl room rs R w) :
    Calls Tryz.prog 13 #[.pointer (some ⟨pl, 0, none⟩)] w fun e w' => e = .returned (.int .i64 0) ∧ SureE B W pd pl room rs R w' ∧ Kept R w w' := by
  obtain ⟨_, _, _, _, _, h⟩ := h
  exact h.sync.mono fun e w' ⟨he, X', h1, h2, _, _, _, hk⟩ => ⟨he, ⟨_, _, _, _, _, h1, h2⟩, hk⟩
def FellE (B : Nat) (W : World) (pd : Nat) (room : Int) (rs : List ByteArray) (R : Nat → Prop) (w : World) : Prop := ∃ st lg X n, Fell B W pd room rs R st lg X n w
theorem FellE.below {B : Nat} {W w : World} {pd : Nat} {room : Int} {rs : List ByteArray} {R : Nat → Prop} (h : FellE B W pd room rs R w) : Below W.heap.size W w := by
  obtain ⟨_, _, _, _, h⟩ := h; exact h.own.below
theorem SureE.crash {B : Nat} {W w w' : World} {pd pl : Nat} {room : Int} {rs : List ByteArray} {R : Nat → Prop} (h : SureE B W pd pl room rs R w) (hu : Upon (fun _ => False) w w') {v : Value} {ks : List Int} {db : Nat} (hk : KeepAt w' v ks db) (hdb : ks ≠ [] → w.heap.size ≤ db ∧ db < w'.heap.size) :
    Calls Tryz.prog 15 #[.pointer (some ⟨pd, 0, none⟩), v] w' fun e w'' => e = .returned (.tuple #[]) ∧ FellE B W pd room rs R w'' ∧ Kept R w' w'' := by
  obtain ⟨_, _, _, _, _, h, hs⟩ := h
  exact (h.crash hs hu hk hdb).mono fun e w'' ⟨he, ⟨lg', hf, _, _⟩, hk⟩ => ⟨he, ⟨_, _, _, _, hf⟩, hk⟩
theorem FellE.open {B : Nat} {W w : World} {pd : Nat} {room : Int} {rs : List ByteArray} {R : Nat → Prop} (h : FellE B W pd room rs R w) :
    Calls Tryz.prog 10 #[.pointer (some ⟨pd, 0, none⟩), .int .i64 0] w fun e w' => ∃ pl, e = .returned (.tuple #[.pointer (some ⟨pl, 0, none⟩), .int .i64 0]) ∧ GoingE B W pd pl room rs R w' ∧ Kept R w w' := by
  obtain ⟨_, _, _, _, h⟩ := h
  exact h.open.mono fun e w' ⟨pl, he, hg, hk⟩ => ⟨pl, he, ⟨_, _, _, _, _, hg⟩, hk⟩
theorem GoingE.last {B : Nat} {W w : World} {pd pl : Nat} {room : Int} {rs : List ByteArray} {R : Nat → Prop} (h : GoingE B W pd pl room rs R w) :
    Calls Tryz.prog 16 #[.pointer (some ⟨pl, 0, none⟩)] w fun e w' => e = .returned (.int .i64 (rs.length : Int)) ∧ w = w' := by
  obtain ⟨_, _, _, _, _, h⟩ := h; exact h.last
theorem GoingE.first {B : Nat} {W w : World} {pd pl : Nat} {room : Int} {rs : List ByteArray} {R : Nat → Prop} (h : GoingE B W pd pl room rs R w) :
    Calls Tryz.prog 20 #[.pointer (some ⟨pl, 0, none⟩)] w fun e w' => e = .returned (.int .i64 1) ∧ w = w' := by
  obtain ⟨_, _, _, _, _, h⟩ := h; exact h.first
theorem GoingE.read {B : Nat} {W w : World} {pd pl : Nat} {room : Int} {rs : List ByteArray} {R : Nat → Prop} (h : GoingE B W pd pl room rs R w) (i : Int) (j : Nat) (hij : i = (j : Int) + 1) (r : ByteArray) (hj : rs[j]? = some r) :
    Calls Tryz.prog 17 #[.pointer (some ⟨pl, 0, none⟩), .int .i64 i] w fun e w' => e = .returned (.tuple #[.string r, .int .i64 0]) ∧ GoingE B W pd pl room rs R w' ∧ Kept R w w' := by
  obtain ⟨_, _, _, _, _, h⟩ := h
  exact (h.read i (by omega) j (by omega) r hj).mono fun e w' ⟨he, hg, hk⟩ => ⟨he, ⟨_, _, _, _, _, hg⟩, hk⟩

/-- At the head of each round: so many were appended, all small. -/
structure On (ss : List ByteArray) (bs : List Bool) (v0 v1 : Value) (b0 b1 : Nat) (B : Nat) (W : World) (pd pl k : Nat) (w : World) : Prop where
  going : GoingE B W pd pl 1048576 (ss.take k) (fun _ => False) w
  small : ∀ r ∈ ss.take k, r.size ≤ 1000
theorem On.at {ss : List ByteArray} {bs : List Bool} {v0 v1 : Value} {b0 b1 B pd pl k : Nat} {W w : World} (h : On ss bs v0 v1 b0 b1 B W pd pl k w) (h0 : StrsAt W v0 ss b0) (hb0 : ss ≠ [] → b0 < W.heap.size) : StrsAt w v0 ss b0 := by
  by_cases hn : ss = []
  · obtain ⟨a, c, e1, e2, e3⟩ := h0
    exact ⟨a, c, e1, e2, fun hh => absurd hn hh⟩
  · exact h0.kept (h.going.below.block _ (hb0 hn))
theorem bools_at {bs : List Bool} {v1 : Value} {b1 : Nat} {W w : World} (hb : Below W.heap.size W w) (h1 : BoolsAt W v1 bs b1) (hb1 : bs ≠ [] → b1 < W.heap.size) : BoolsAt w v1 bs b1 := by
  by_cases hn : bs = []
  · obtain ⟨a, c, e1, e2, e3⟩ := h1
    exact ⟨a, c, e1, e2, fun hh => absurd hn hh⟩
  · exact h1.kept (hb.block _ (hb1 hn))
theorem strs_at {bs : List ByteArray} {v1 : Value} {b1 : Nat} {W w : World} (hb : Below W.heap.size W w) (h1 : StrsAt W v1 bs b1) (hb1 : bs ≠ [] → b1 < W.heap.size) : StrsAt w v1 bs b1 := by
  by_cases hn : bs = []
  · obtain ⟨a, c, e1, e2, e3⟩ := h1
    exact ⟨a, c, e1, e2, fun hh => absurd hn hh⟩
  · exact h1.kept (hb.block _ (hb1 hn))

set_option maxHeartbeats 8000000 in
set_option maxRecDepth 100000 in
theorem goes_any (W : World) (v0 v1 : Value) (ss : List ByteArray) (bs : List Bool) (b0 b1 : Nat) (h0 : StrsAt W v0 ss b0) (hb0 : ss ≠ [] → b0 < W.heap.size) (h1 : BoolsAt W v1 bs b1) (hb1 : bs ≠ [] → b1 < W.heap.size) (hE : Env W.heap.size W) :
    Calls Tryz.prog 6 #[v0, v1] W (Yes W) := by
  have HS := Lib.hid (fun (w : World) (hb : Below W.heap.size W w) => strs_at hb h0 hb0)
  have HB := Lib.hid (fun (w : World) (hb : Below W.heap.size W w) => bools_at hb h1 hb1)
  have HW := Lib.hid (works_true W.heap.size W hE)
  have HE := Lib.hid hE
  obtain ⟨a0, c0, rfl, hl0, -⟩ := h0
  obtain ⟨a1, c1, rfl, hl1, -⟩ := h1
  unfold maxLen at hl0 hl1
  clear hE hb0 hb1
  go_enter Tryz.func6, Tryz.ntmps6
  go_wp2_with fail
  refine HW.out.mono ?_
  rintro e w1 ⟨rfl, hb1⟩
  have HB1 := Lib.hid hb1
  clear hb1 HW
  go_wp2_with fail
  refine (new_any 1048576 ⟨by omega, by omega⟩ w1).mono ?_
  intro e w2 hm
  obtain ⟨pd, rfl, hd2, -⟩ := DskO.made (R := fun _ => False) HE.out HB1.out (fun _ h => h.elim) hm
  have H2 := Lib.hid hd2
  clear hm hd2 HB1
  go_wp2_with fail
  refine (open_new H2.out).mono ?_
  rintro e w3 ⟨pl, rfl, hg3, -⟩
  have H3 := Lib.hid (show On ss bs (.slice a0 ss.length c0) (.slice a1 bs.length c1) b0 b1 W.heap.size W pd pl 0 w3 from ⟨⟨_, _, _, _, _, hg3⟩, by simp⟩)
  clear hg3 H2
  go_upto_block 0 with fail
  go_cut [6, 8] (fun g n wr => ∃ k pl : Nat, k ≤ ss.length ∧ k ≤ 50 ∧ g = .pointer (some ⟨pl, 0, none⟩) ∧ n = .int .i64 (k : Int) ∧ On ss bs (.slice a0 ss.length c0) (.slice a1 bs.length c1) b0 b1 W.heap.size W pd pl k wr)
  case first =>
    go_wp2_with fail
    go_loopw [6, 8, 9] (fun g n i wr => ∃ k pl : Nat, k ≤ ss.length ∧ k ≤ 50 ∧ g = .pointer (some ⟨pl, 0, none⟩) ∧ n = .int .i64 (k : Int) ∧ i = .int .i64 (k : Int) ∧ On ss bs (.slice a0 ss.length c0) (.slice a1 bs.length c1) b0 b1 W.heap.size W pd pl k wr) (fun _ _ i _ => 50 - (intOf i).toNat)
    case atStart => exact ⟨0, pl, Nat.zero_le _, Nat.zero_le _, rfl, rfl, rfl, H3.out⟩
    case round =>
      obtain ⟨k, pl, hk1, hk2, rfl, rfl, rfl, hon⟩ := hrel
      clear H3
      have HON := Lib.hid hon
      have hbl := hon.going.below
      clear hon
      by_cases hend : k < ss.length ∧ k < 50
      · obtain ⟨hlt, hlt2⟩ := hend
        have hd1 : decide ((k : Int) < (ss.length : Int)) = true := decide_eq_true (by omega)
        have hd2 : decide ((k : Int) < 50) = true := decide_eq_true (by omega)
        obtain ⟨s, hs⟩ : ∃ y, ss[k]? = some y := ⟨_, List.getElem?_eq_getElem hlt⟩
        have hne : ss ≠ [] := by intro e; rw [e] at hlt; simp at hlt
        obtain ⟨a', c', e1, -, e3⟩ := HS.out wr hbl
        obtain ⟨rfl, -, rfl⟩ : a0 = a' ∧ True ∧ c0 = c' := by simpa using e1
        obtain ⟨o, rfl, hcell⟩ := e3 hne
        obtain ⟨hcs, hsz⟩ := hcell k s hs
        unfold maxLen at hsz
        have htk : ss.take (k + 1) = ss.take k ++ [s] := by
          rw [List.take_succ_eq_append_getElem hlt]
          congr 2
          have := List.getElem?_eq_getElem hlt
          rw [hs] at this
          exact (Option.some.inj this).symm
        have HTK := Lib.hid htk
        have HSK := Lib.hid hs
        clear e1 e3 hcell htk hs
        by_cases hbig : 1000 < s.size
        · have HQ := Lib.hid (show Yes W (.returned (.bool true)) wr from ⟨rfl, hbl⟩)
          have hd3 : decide ((1000 : Int) < (s.size : Int)) = true := decide_eq_true (by omega)
          clear hbl HON
          go_wp2_with fail
          go_ret
          exact HQ.out
        · have hd3 : decide ((1000 : Int) < (s.size : Int)) = false := decide_eq_false (by omega)
          have hlen : (ss.take k).length = k := by rw [List.length_take]; omega
          have hroom : (((frs (ss.take k)).length + lenF s : Nat) : Int) ≤ 1048576 := by
            have q1 := frs_le _ HON.out.small
            have q2 := lenF_le s (by omega)
            rw [hlen] at q1; omega
          have HA := Lib.hid (HON.out.going.append s (by omega) hroom (by rw [hlen]; omega))
          rw [hlen] at HA
          have HSM := Lib.hid (show ∀ r ∈ ss.take (k + 1), r.size ≤ 1000 from fun r hr => by
            rw [HTK.out] at hr
            rcases List.mem_append.1 hr with hr | hr
            · exact HON.out.small r hr
            · simp at hr; subst hr; omega)
          have HLEN := Lib.hid hlen
          clear hroom hlen hbl HON
          go_wp2_with fail
          refine HA.out.mono ?_
          rintro e w4 ⟨rfl, hg4, -⟩
          rw [← HTK.out] at hg4
          have HG4 := Lib.hid hg4
          have hbl4 := hg4.below
          clear hg4 HA
          by_cases hanew : bs[k]? = some true
          · have hkb := (List.getElem?_eq_some_iff.1 hanew).1
            have hneb : bs ≠ [] := by intro e; rw [e] at hkb; simp at hkb
            have hd4 : decide ((k : Int) < (bs.length : Int)) = true := decide_eq_true (by omega)
            obtain ⟨a', c', e1, -, e3⟩ := HB.out w4 hbl4
            obtain ⟨rfl, -, rfl⟩ : a1 = a' ∧ True ∧ c1 = c' := by simpa using e1
            obtain ⟨o2, rfl, hcell⟩ := e3 hneb
            have hcb := hcell k true hanew
            have hl1k : (ss.take (k + 1)).length = k + 1 := by rw [HTK.out, List.length_append, HLEN.out]; rfl
            have HL1 := Lib.hid hl1k
            clear e1 e3 hcell hanew hbl4 hcs hl1k
            go_wp2_with fail
            refine HG4.out.sync.mono ?_
            rintro e w5 ⟨rfl, hs5, -⟩
            have HS5 := Lib.hid hs5
            clear hs5 HG4 hcb
            go_wp2_with fail
            refine (HS5.out.crash (w' := w5) (Upon.refl _ _) (KeepAt.nil _ 0) (fun h => absurd rfl h)).mono ?_
            rintro e w6 ⟨rfl, hf6, -⟩
            have HF6 := Lib.hid hf6
            clear hf6 HS5
            go_wp2_with fail
            refine HF6.out.open.mono ?_
            rintro e w7 ⟨pl7, rfl, hg7, -⟩
            have HLA := Lib.hid (hg7.last)
            have HFI := Lib.hid (hg7.first)
            rw [HL1.out] at HLA
            have HON7 := Lib.hid (show On ss bs (.slice (some ⟨b0, o, none⟩) ss.length c0) (.slice (some ⟨b1, o2, none⟩) bs.length c1) b0 b1 W.heap.size W pd pl7 (k + 1) w7 from ⟨hg7, HSM.out⟩)
            clear hg7 HF6
            go_wp2_with fail
            refine HLA.out.mono ?_
            rintro e w8 ⟨rfl, rfl⟩
            clear HLA
            go_wp2_with fail
            refine HFI.out.mono ?_
            rintro e w8 ⟨rfl, rfl⟩
            clear HFI
            go_wp2_with fail
            go_roundw
            case rel => exact ⟨k + 1, pl7, by omega, by omega, rfl, by go_num, by go_num, HON7.out⟩
            case measure => simp [intOf]; omega
          · have HON4 := Lib.hid (show On ss bs (.slice (some ⟨b0, o, none⟩) ss.length c0) (.slice a1 bs.length c1) b0 b1 W.heap.size W pd pl (k + 1) w4 from ⟨HG4.out, HSM.out⟩)
            by_cases hkb : k < bs.length
            · have hneb : bs ≠ [] := by intro e; rw [e] at hkb; simp at hkb
              have hd4 : decide ((k : Int) < (bs.length : Int)) = true := decide_eq_true (by omega)
              obtain ⟨a', c', e1, -, e3⟩ := HB.out w4 hbl4
              obtain ⟨rfl, -, rfl⟩ : a1 = a' ∧ True ∧ c1 = c' := by simpa using e1
              obtain ⟨o2, rfl, hcell⟩ := e3 hneb
              have hbf : bs[k]? = some false := by
                rw [List.getElem?_eq_getElem hkb] at hanew ⊢
                cases hh : bs[k] with
                | false => rfl
                | true => rw [hh] at hanew; exact absurd rfl hanew
              have hcb := hcell k false hbf
              clear e1 e3 hcell hanew hbf hbl4 hcs HG4
              go_wp2_with fail
              go_roundw
              case rel => exact ⟨k + 1, pl, by omega, by omega, rfl, by go_num, by go_num, HON4.out⟩
              case measure => simp [intOf]; omega
            · have hd4 : decide ((k : Int) < (bs.length : Int)) = false := decide_eq_false (by omega)
              clear hanew hbl4 hcs HG4
              go_wp2_with fail
              go_roundw
              case rel => exact ⟨k + 1, pl, by omega, by omega, rfl, by go_num, by go_num, HON4.out⟩
              case measure => simp [intOf]; omega
      · clear hbl
        by_cases hlt : k < ss.length
        · have hd1 : decide ((k : Int) < (ss.length : Int)) = true := decide_eq_true (by omega)
          have hd2 : decide ((k : Int) < 50) = false := decide_eq_false (by omega)
          clear hend
          go_wp2_with fail
          go_meet
          exact ⟨k, pl, hk1, hk2, rfl, rfl, HON.out⟩
        · have hd1 : decide ((k : Int) < (ss.length : Int)) = false := decide_eq_false (by omega)
          clear hend
          go_wp2_with fail
          go_meet
          exact ⟨k, pl, hk1, hk2, rfl, rfl, HON.out⟩
  obtain ⟨k, pl, hk1, hk2, rfl, rfl, hon⟩ := hcut
  have HG := Lib.hid hon.going
  clear hon H3
  go_wp2_with fail
  go_loopw [12] (fun i wx => ∃ j : Nat, j ≤ k ∧ i = .int .i64 ((j : Int) + 1) ∧ GoingE W.heap.size W pd pl 1048576 (ss.take k) (fun _ => False) wx) (fun i _ => k + 1 - (intOf i).toNat)
  case atStart => exact ⟨0, Nat.zero_le _, rfl, HG.out⟩
  case round =>
    obtain ⟨j, hj, rfl, hg⟩ := hrel
    clear HG
    have HG := Lib.hid hg
    have hbl := hg.below
    clear hg
    by_cases hjk : j < k
    · have hd5 : decide ((j : Int) + 1 ≤ (k : Int)) = true := decide_eq_true (by omega)
      have hjl : j < ss.length := by omega
      obtain ⟨s, hs⟩ : ∃ y, ss[j]? = some y := ⟨_, List.getElem?_eq_getElem hjl⟩
      have hne : ss ≠ [] := by intro e; rw [e] at hjl; simp at hjl
      obtain ⟨a', c', e1, -, e3⟩ := HS.out wr hbl
      obtain ⟨rfl, -, rfl⟩ : a0 = a' ∧ True ∧ c0 = c' := by simpa using e1
      obtain ⟨o, rfl, hcell⟩ := e3 hne
      have HRD := Lib.hid (HG.out.read ((j : Int) + 1) j rfl s (by rw [List.getElem?_take_of_lt hjk]; exact hs))
      have HSS := Lib.hid hs
      have HCELL := Lib.hid hne
      clear e1 e3 hcell HG hs hne hbl
      go_wp2_with fail
      refine HRD.out.mono ?_
      rintro e w5 ⟨rfl, hg5, -⟩
      have HG5 := Lib.hid hg5
      obtain ⟨a', c', e1, -, e3⟩ := HS.out w5 hg5.below
      obtain ⟨h5o, -, rfl⟩ : some ⟨b0, o, none⟩ = a' ∧ True ∧ c0 = c' := by simpa using e1
      obtain ⟨o', rfl, hcell⟩ := e3 HCELL.out
      obtain rfl : o = o' := by simpa using h5o
      have hcs := (hcell j s HSS.out).1
      clear e1 e3 hcell hg5 HRD h5o
      go_wp2_with fail
      go_roundw
      case rel => exact ⟨j + 1, by omega, by go_num, HG5.out⟩
      case measure => simp [intOf]; omega
    · have hd5 : decide ((j : Int) + 1 ≤ (k : Int)) = false := decide_eq_false (by omega)
      have HQ := Lib.hid (show Yes W (.returned (.bool true)) wr from ⟨rfl, hbl⟩)
      clear HG hbl
      go_wp2_with fail
      go_ret
      exact HQ.out
theorem goes_true (W : World) (v0 v1 : Value) (o0 : IsStrs v0 W) (o1 : IsBools v1 W) (hE : Env W.heap.size W) : Calls Tryz.prog 6 #[v0, v1] W fun e W' => e = .returned (.bool true) ∧ Below W.heap.size W W' := by
  obtain ⟨ss, b0, h0, hb0⟩ := o0
  obtain ⟨bs, b1, h1, hb1⟩ := o1
  exact goes_any W v0 v1 ss bs b0 b1 h0 hb0 h1 hb1 hE
end Wal
end Go.Proofs.YtlgjbdfnhaoloaaGreatDoor
