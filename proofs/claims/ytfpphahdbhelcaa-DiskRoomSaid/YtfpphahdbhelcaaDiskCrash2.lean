/- (*Disk).Crash, walked (layer 4). -/
import Derived.Test.YtfpphahdbhelcaaDiskCrash
import Derived.Outline
import Derived.Deep.CutBlock
namespace Go.Proofs.Ytfpphahdbhelcaa
open Go.RowKit Go.Proofs
namespace Dsk
open Go.Maps

/-- Where the names' row lies. -/
theorem row_shape {w : World} {base : Nat} {v : Value} {l : List Str} (h : w.ownsRow base 9 1 v l.length (l.map encStr)) :
    ∃ gb c a, v = .slice a l.length c ∧ (l ≠ [] → a = some ⟨gb, 0, none⟩ ∧ base ≤ gb ∧ gb < w.heap.size ∧ ∀ j x, l[j]? = some x → w.cell? ⟨gb, j, none⟩ = some (.string ⟨x.toArray⟩)) := by
  have hcells := fun g => h.cells (g := g)
  rcases h.2 with ⟨hv, h0⟩ | ⟨gb, cap, cur, hv, hb, hg, _⟩
  · exact ⟨0, 0, none, by rw [hv, h0], fun hn => absurd (List.eq_nil_of_length_eq_zero h0) hn⟩
  · refine ⟨gb, cap, _, hv, fun _ => ⟨rfl, hb, lt_of_block hg, fun j x hx => ?_⟩⟩
    have := hcells gb (by rw [hv]; rfl) j (encStr x) (by simp [hx])
    have e : (⟨gb, 0, none⟩ : Addr).add j = ⟨gb, j, none⟩ := by unfold Addr.add; split <;> simp_all
    rw [e] at this
    exact this

/-- One round of the crash's loop: what its three calls leave. -/
structure Round (w w6 : World) (S : Nat → Prop) (p kb gb db : Nat) (st : St) (keep : List Int) (j i : Nat) (f : FileS) (b q : Nat) (W : World) : Prop where
  cell : W.cell? ⟨b, 2, none⟩ = some (.int .i64 (f.lasts : Int))
  len : Calls Try.prog 38 #[.pointer (some ⟨b, 0, none⟩)] W fun e w' => e = .returned (.int .i64 (f.s.length : Int)) ∧ W = w'
  pick : Calls Try.prog 60 #[.int .i64 ((f.s.length - f.lasts : Nat) : Int), .pointer (some ⟨kb, 0, none⟩)] W fun e w1 => e = .returned (.int .i64 (q : Int)) ∧ w1.cell? ⟨b, 2, none⟩ = some (.int .i64 (f.lasts : Int)) ∧
    Calls Try.prog 47 #[.pointer (some ⟨b, 0, none⟩), .int .i64 ((f.lasts + q : Nat) : Int)] w1 fun e w2 => e = .returned (.tuple #[]) ∧ CrAt w w6 S p kb gb db st keep (j + 1) w2
  sub : IntKind.i64.wrap ((f.s.length : Int) - (f.lasts : Int)) = ((f.s.length - f.lasts : Nat) : Int)
  add : IntKind.i64.wrap ((f.lasts : Int) + (q : Int)) = ((f.lasts + q : Nat) : Int)

theorem round_of {w w6 wr : World} {S : Nat → Prop} {p kb gb db : Nat} {st : St} {keep : List Int} {j : Nat} (h : CrAt w w6 S p kb gb db st keep j wr) (hst : ∀ f ∈ st.F, f.s.length ≤ 100000000000000) (hfine : Fine st)
    (hkl : kb < w6.heap.size) (hgl : crN st keep ≠ [] → gb < w6.heap.size) (hdl : keep ≠ [] → db < w6.heap.size) (hgk : gb ≠ kb) (hwk : w.heap.size ≤ kb)
    {x : Str} {i : Nat} (hx : (crN st keep)[j]? = some (x, i)) :
    ∃ (g : Ghost) (f : FileS) (q : Nat), wr.cell? ⟨p, 3, none⟩ = some (.map (some g.bn)) ∧ MapAt wr g.bn g.fs (crN st keep) ∧ lookN (crN st keep) x = some i ∧ wr.heap[gb]? = w6.heap[gb]? ∧ Round w w6 S p kb gb db st keep j i f (blk g.fs i) q wr.drew := by
  obtain ⟨⟨S', g, hd, hbn, hkb, hgb, hdb⟩, ⟨v', hbox, hkeep⟩, hrow, hsz⟩ := h
  have hne : crN st keep ≠ [] := by intro e; rw [e] at hx; simp at hx
  obtain ⟨-, -, -, k3, -, -, -⟩ := c6 hd.cell
  have hl : lookN (crN st keep) x = some i := look_of_mem hd.fine.nmN.rising (List.mem_of_getElem? hx)
  obtain ⟨f, hf, hfile, hll⟩ := hd.file (st := crAt st keep j) (k := x) (i := i) hl
  have hbig : f.s.length ≤ 100000000000000 := by
    have : ∀ (N : Nms) (keep : List Int) (F : List FileS), (∀ f ∈ F, f.s.length ≤ 100000000000000) → ∀ f ∈ cutAll keep N F, f.s.length ≤ 100000000000000 := by
      intro N
      induction N with
      | nil => intro _ F hF; exact hF
      | cons p r ih =>
        intro keep F hF
        unfold cutAll
        refine ih _ _ ?_
        intro f hf
        obtain ⟨i, hi, rfl⟩ := List.mem_iff_getElem.1 hf
        rw [List.getElem_modify]
        have hm := hF _ (List.getElem_mem (l := F) (by simpa using hi : i < F.length))
        split
        · simp only [cutF, List.length_take]; omega
        · exact hm
    exact this _ _ _ hst f (List.mem_of_getElem? hf)
  have hdD : DiskG wr.drew S' p (crAt st keep j) g := hd.kept (fun _ _ => rfl) (Nat.le_refl _)
  have hfD : FileAt wr.drew (blk g.fs i) (g.rows.getD i none) f.s f.lasts := hfile.kept rfl fun _ _ => rfl
  have hbD : Been S S' w wr.drew := ⟨hbn.sub, hbn.new, hbn.upon.drew⟩
  have hle := kept1_le (keep.drop (1 + j)) (f.s.length - f.lasts)
  have hbk : blk g.fs i ≠ kb := by
    rintro e
    have := hdD.files.s_f i (List.getElem?_eq_some_iff.1 hf).1
    rw [e] at this; exact hkb this
  have _ := hfine
  refine ⟨g, f, kept1 (keep.drop (1 + j)) (f.s.length - f.lasts), k3, hd.now, hl, hrow hne, (lasts_file hfD 0).1, len_any _ _ _ _ _ hfD, ?_, ?_, ?_⟩
  · refine (pick_any (keep.drop (1 + j)) db kb (f.s.length - f.lasts) v' (by omega) wr.drew hbox (hkeep.kept fun _ => rfl)).mono ?_
    intro e w1 hp
    obtain rfl : e = .returned (.int .i64 (kept1 (keep.drop (1 + j)) (f.s.length - f.lasts) : Int)) := hp.1
    have hg1 := hp.2.2
    have hf1 : FileAt w1 (blk g.fs i) (g.rows.getD i none) f.s f.lasts := hfD.kept (hg1.block _ hfD.lt (fun e => hbk (Option.some.inj e))) fun b hb => hg1.block b (hfD.row b hb) (fun e => by
      have := hdD.files.s_r i b hb
      cases e; exact hkb this)
    refine ⟨rfl, (lasts_file hf1 0).1, ?_⟩
    refine (cut_any (blk g.fs i) _ f.s f.lasts (f.lasts + kept1 (keep.drop (1 + j)) (f.s.length - f.lasts)) w1 hf1 (by omega) (by omega)).mono ?_
    rintro e w2 ⟨rfl, hw⟩
    exact ⟨rfl, crAt_step hdD hbD hkb hgb hdb hkl hgl hdl hgk hwk hrow hsz hx hf hp rfl rfl hw⟩
  · rw [IntWalk.i64_in _ (by omega)]; omega
  · rw [IntWalk.i64_in _ (by omega)]; omega

set_option maxHeartbeats 8000000 in
set_option maxRecDepth 100000 in
theorem crash_any (S : Nat → Prop) (p : Nat) (st : St) (keep : List Int) (v : Value) (db : Nat) (w : World) (h : IsDisk w S p st) (hk : KeepAt w v keep db) (hdb : keep ≠ [] → db < w.heap.size ∧ ¬ S db)
    (hlen : ∀ f ∈ st.F, f.s.length ≤ 100000000000000) (hC : st.C.length ≤ 1000000000) :
    Calls Try.prog 23 #[.pointer (some ⟨p, 0, none⟩), v] w fun e w' => e = .returned (.tuple #[]) ∧ Step S p (crash st keep) w w' := by
  have hslt := h.lt
  obtain ⟨g, hd⟩ := h
  obtain ⟨a, c, rfl, hkl1, hkl2, hkl3⟩ := hk
  have hk' : KeepAt (w.alloc (.cells #[.slice a keep.length c] 27 (0, 0))) (.slice a keep.length c) keep db := KeepAt.kept ⟨a, c, rfl, hkl1, hkl2, hkl3⟩ fun hn => Below.heap_alloc _ _ _ (hdb hn).1
  have hup1 : Upon (fun _ => False) w (w.alloc (.cells #[.slice a keep.length c] 27 (0, 0))) := (Upon.refl _ w).alloc _
  have hd1 : DiskG (w.alloc (.cells #[.slice a keep.length c] 27 (0, 0))) S p st g := hd.kept (fun b hb => hup1.block b (hslt b hb) fun h => h) hup1.size
  obtain ⟨-, -, -, -, -, k5, -⟩ := c6 hd1.cell
  obtain ⟨ca, cc, hcv⟩ : ∃ a c, g.cv = .slice a st.C.length c := by
    rcases hd1.chs.row.2 with ⟨hv, h0⟩ | ⟨gb, cap, cur, hv, _⟩
    · exact ⟨none, 0, by rw [hv, h0]⟩
    · exact ⟨_, _, hv⟩
  rw [hcv] at k5
  have HPK := Lib.hid (pick_any keep db w.heap.size st.C.length _ (by omega) _ (cell_new w _) hk')
  have HD1 := Lib.hid hd1
  have HSL := Lib.hid hslt
  have HDB := Lib.hid hdb
  have HUP := Lib.hid hup1
  clear hd hk' hup1 hd1 hcv hkl1 hkl2 hkl3 hslt hdb
  have pl := HD1.out.lt p HD1.out.s_p
  go_enter Try.func23, Try.ntmps23
  go_wp2_with fail
  refine (picker_any a keep.length c w).mono ?_
  rintro e w1 ⟨rfl, rfl⟩
  go_wp2_with fail
  refine HPK.out.mono ?_
  intro e w2 hp
  obtain rfl : e = .returned (.int .i64 (kept1 keep st.C.length : Int)) := hp.1
  obtain ⟨_, ⟨v2, hbox2, hkeep2⟩, hg2⟩ := hp
  have hd2 : DiskG w2 S p st g := HD1.out.kept (fun b hb => hg2.block b (HD1.out.lt b hb) (fun e => by have := HSL.out b hb; cases e; omega)) hg2.size
  have HST := Lib.hid (settle_any S p st (kept1 keep st.C.length) (kept1_le _ _) w2 ⟨g, hd2⟩)
  have HB2 := Lib.hid hbox2
  have HK2 := Lib.hid hkeep2
  have HU2 := Lib.hid (show Upon (fun _ => False) w w2 from HUP.out.trans' (T := fun k => k = w.heap.size) ⟨hg2.os, hg2.tape, hg2.output, hg2.size, fun k hk hn => hg2.block k hk (fun e => hn (Option.some.inj e))⟩ (fun i hi e => by omega))
  have HF := Lib.hid hd2.fine
  clear hbox2 hkeep2 hg2 hd2 HPK k5
  go_wp2_with fail
  refine HST.out.mono ?_
  rintro e w3 ⟨rfl, ⟨g3, hm3⟩, hu3⟩
  obtain ⟨-, -, -, -, k4, -, -⟩ := c6 hm3.cell
  have HM3 := Lib.hid hm3
  have HU3 := Lib.hid hu3
  have HCL := Lib.hid (clone_any g3.bl g3.fs _ w3 hm3.last)
  clear hm3 hu3 HST
  go_wp2_with fail
  refine HCL.out.mono ?_
  rintro e w4 ⟨rfl, hm4, hb4⟩
  obtain ⟨⟨q3, q1, q2, qf⟩, S5, g5, hd5, hbn5, hnew5⟩ := crash_mid (keep := keep) HF.out HM3.out hm4 hb4 HU3.out
  have qf3 := qf 3
  have qf1 := qf 1
  have qf2 := qf 2
  have HNM := Lib.hid (names_any S5 p (crAt st keep 0) _ ⟨g5, hd5⟩)
  have HD5 := Lib.hid hd5
  have HBN5 := Lib.hid hbn5
  have HNW5 := Lib.hid hnew5
  have HB4 := Lib.hid hb4
  clear hm4 hb4 hd5 hbn5 hnew5 qf k4 HCL
  go_wp2_with fail
  refine HNM.out.mono ?_
  rintro e w6 ⟨v6, rfl, hrow6, _, hb6⟩
  have en : names (crAt st keep 0) = (crN st keep).map (·.1) := rfl
  rw [en] at hrow6
  obtain ⟨gb, c6', a6, rfl, hrc⟩ := row_shape hrow6
  have s5 : (((w4.setCell ⟨p, 3, none⟩ (.map (some w3.heap.size))).setCell ⟨p, 1, none⟩ (.bool true)).setCell ⟨p, 2, none⟩ (.int .i64 (-1))).heap.size = w4.heap.size := by simp [World.setCell]
  rw [s5] at hrc
  have s34 := HB4.out.size
  have s23 := HU3.out.size
  have s02 := HU2.out.size
  have s46 := hb6.size
  rw [s5] at s46
  have hkb2 := lt_of_block HB2.out
  have hpw := HSL.out p HD1.out.s_p
  have hkbS : ¬ S w.heap.size := fun hS => by have := HSL.out _ hS; omega
  have hstart : CrAt w w6 S p w.heap.size gb db st keep 0 w6 := by
    have hmove : ∀ b, b < w2.heap.size → ¬ S b → b ≠ p → w6.heap[b]? = w2.heap[b]? := by
      intro b hb hS hne
      rw [hb6.block b (by rw [s5]; omega), Below.heap_setCell _ _ _ _ hne, Below.heap_setCell _ _ _ _ hne, Below.heap_setCell _ _ _ _ hne, HB4.out.block b (by omega), HU3.out.block b hb hS]
    refine ⟨⟨S5, g5, HD5.out.kept (fun b hb => hb6.block b (HD5.out.lt b hb)) hb6.size, ⟨HBN5.out.sub, fun b hb => (HBN5.out.new b hb).elim .inl fun h => .inr (Nat.le_trans s02 h), (HU2.out.mono fun _ _ h => h.elim).trans' (HBN5.out.upon.trans' (Upon.of_below hb6 (fun _ => False)) fun _ _ h => h.elim) fun _ _ h => h⟩, fun h => ?_, fun hn h => ?_, fun hn h => ?_⟩, ?_, fun _ => rfl, Nat.le_refl _⟩
    · rcases HNW5.out _ h with h | h
      · exact hkbS h
      · omega
    · have h1 := HD5.out.lt _ h
      rw [s5] at h1
      have h2 := (hrc (by simpa using hn)).2.1
      omega
    · rcases HNW5.out _ h with h | h
      · exact (HDB.out hn).2 h
      · have := (HDB.out hn).1; omega
    · refine ⟨v2, (hmove _ hkb2 hkbS (by omega)).trans HB2.out, HK2.out.kept fun hn => ?_⟩
      have hn' : keep ≠ [] := by intro e; rw [e] at hn; simp at hn
      have := (HDB.out hn').1
      exact hmove db (by omega) (HDB.out hn').2 (by
        rintro rfl; exact (HDB.out hn').2 HD1.out.s_p)
  have HST0 := Lib.hid hstart
  have hkl : w.heap.size < w6.heap.size := by omega
  have hdl : keep ≠ [] → db < w6.heap.size := fun hn => by have := (HDB.out hn).1; omega
  have HKL := Lib.hid hkl
  have HDL := Lib.hid hdl
  have hlenN : ((crN st keep).map (·.1)).length = (crN st keep).length := by simp
  have hln := HD5.out.fine.nmN.len
  rw [hlenN]
  by_cases hn0 : crN st keep = []
  · have HE := Lib.hid (show Step S p (crash st keep) w w6 by
      obtain ⟨S', g, h1, h2, _⟩ := HST0.out.disk
      have h3 := crAt_end st keep
      rw [hn0] at h3
      have h4 : crAt st keep 0 = crash st keep := h3
      rw [h4] at h1
      exact h2.step (Step.same ⟨g, h1⟩))
    rw [hn0]
    clear hrow6 hb6 hrc hstart s34 s23 s02 s46 hkl hdl s5 en hn0 hlenN hln
    go_wp2_with fail
    refine wp_loop_rounds 1 ?_
    rw [rounds_succ]
    go_wp2
    go_end0
    exact ⟨rfl, HE.out⟩
  · obtain ⟨rfl, hgb1, hgb2, hcell⟩ := hrc (by simpa using hn0)
    have hgl : crN st keep ≠ [] → gb < w6.heap.size := fun _ => hgb2
    have hgk : gb ≠ w.heap.size := by omega
    have HGL := Lib.hid hgl
    have HGK := Lib.hid hgk
    have HCE := Lib.hid hcell
    have HLF := Lib.hid hlen
    obtain ⟨n, hn⟩ : ∃ n, n = (crN st keep).length := ⟨_, rfl⟩
    have HN := Lib.hid hn
    have hnb : n ≤ 64 := by rw [hn]; exact hln
    rw [← hn]
    clear hrow6 hb6 hrc hstart s34 s23 s02 s46 hkl hdl s5 en hn0 hlenN hln hgl hgk hcell hlen hn hgb1
    go_wp2_with fail
    go_loopw [36] (fun i wr => ∃ j : Nat, j ≤ n ∧ i = .int .i64 (j : Int) ∧ CrAt w w6 S p w.heap.size gb db st keep j wr) (fun i _ => n - (intOf i).toNat)
    case atStart => exact ⟨0, Nat.zero_le _, rfl, HST0.out⟩
    case round =>
      obtain ⟨j, hj, rfl, hcr⟩ := hrel
      by_cases hlt : j < n
      · obtain ⟨⟨x, i⟩, hx⟩ : ∃ y, (crN st keep)[j]? = some y := ⟨_, List.getElem?_eq_getElem (by rw [← HN.out]; exact hlt)⟩
        obtain ⟨g, f, q, k3, hmap, hlk, hrw, hround⟩ := round_of hcr HLF.out HF.out HKL.out HGL.out HDL.out HGK.out (Nat.le_refl _) hx
        have hcx : wr.cell? ⟨gb, j, none⟩ = some (.string ⟨x.toArray⟩) := (World.cell?_of_block (w := w6) (a := ⟨gb, j, none⟩) hrw).trans (HCE.out j x (by simp [hx]))
        have hxs : (⟨x.toArray⟩ : ByteArray).size ≤ maxLen := by
          have := HD5.out.fine.nmN.nm (x, i) (List.mem_of_getElem? hx)
          show x.toArray.size ≤ maxLen
          have e : x.toArray.size = x.length := rfl
          unfold nameOk at this
          unfold maxLen; simp only at this; omega
        have HM := Lib.hid hmap
        have HLK := Lib.hid (show lookN (crN st keep) (⟨x.toArray⟩ : ByteArray).data.toList = some i from hlk)
        have HRO := Lib.hid hround
        clear hx hmap hlk hrw hround hcr
        obtain ⟨xs, hxx⟩ : ∃ s : ByteArray, s = ⟨x.toArray⟩ := ⟨_, rfl⟩
        rw [← hxx] at hcx hxs HLK
        clear hxx
        go_upto_block 1 with fail
        go_cut [36] from 36 to 64 (fun i36 wx => i36 = .int .i64 (j : Int) ∧ CrAt w w6 S p w.heap.size gb db st keep (j + 1) wx)
        case first =>
          go_wp2_with (at_lookup; refine wpList_look_some _ rfl _ _ rfl g.bn g.fs _ rfl HM.out xs rfl hxs i HLK.out ?_)
          obtain ⟨rc, rlen, rpick, rsub, radd⟩ := HRO.out
          replace rlen := Lib.hid rlen
          replace rpick := Lib.hid rpick
          clear k3 hcx
          go_region_with (first
            | (go_at_call 38; refine rlen.out.mono ?_; rintro e w1 ⟨rfl, rfl⟩)
            | (go_at_call 60; refine rpick.out.mono ?_; rintro e w1 ⟨rfl, rc1, rcut⟩; replace rcut := Lib.hid rcut)
            | (go_at_call 47; refine rcut.out.mono ?_; rintro e w2 ⟨rfl, rend⟩; replace rend := Lib.hid rend))
          all_goals (go_wp2_with fail; go_meet; exact ⟨rfl, rend.out⟩)
        case rest =>
          obtain ⟨rfl, hcr⟩ := hcut
          replace hcr := Lib.hid hcr
          clear k3 hcx
          go_wp2
          go_roundw
          case rel => exact ⟨j + 1, by omega, by go_num, hcr.out⟩
          case measure => simp [intOf]; omega
      · obtain rfl : j = n := by omega
        have HE := Lib.hid (show Step S p (crash st keep) w wr by
          obtain ⟨S', g, h1, h2, _⟩ := hcr.disk
          rw [HN.out, crAt_end] at h1
          exact h2.step (Step.same ⟨g, h1⟩))
        clear hcr
        go_wp2
        go_end0
        exact ⟨rfl, HE.out⟩
end Dsk
end Go.Proofs.Ytfpphahdbhelcaa
