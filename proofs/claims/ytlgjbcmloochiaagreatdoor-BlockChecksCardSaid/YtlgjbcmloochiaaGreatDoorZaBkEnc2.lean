/- The program's blocks (layer 15): rowData, endOf. -/
import Derived.Test.YtlgjbcmloochiaaGreatDoorZaBkEnc
set_option maxRecDepth 100000
namespace Go.Proofs.YtlgjbcmloochiaaGreatDoor
open Go.RowKit Go.Sort
namespace Bk
open Bit Dsk Ob Dig
set_option linter.unusedVariables false

/-- The laid tables. -/
structure TabA (w : World) : Prop where
  c : Ck.Tab w
  s : Crc.Tab w
theorem TabA.new {w w' : World} (h : TabA w) (hu : New0 w w') : TabA w' := ⟨h.c.new hu, h.s.below (belowOf hu)⟩
/-- A builder's write that is new to whom began ahead of it. -/
theorem bown_new {B p : Nat} {r : Option Nat} {l : List UInt8} {w0 w w' : World} (h : IsB B p r l w) (hB : w0.heap.size ≤ B) (hu : New0 w0 w) (hw : Upon (BOwn p r) w w') : New0 w0 w' :=
  hu.trans' hw fun i hi hk => by
    rcases hk with rfl | hk
    · have := h.lo; omega
    · have := h.buf i hk.symm; omega
theorem upon_cell {T : Nat → Prop} {w w' : World} (hu : Upon T w w') {b o : Nat} {v : Value} (h : w.cell? ⟨b, o, none⟩ = some v) (hn : ¬ T b) : w'.cell? ⟨b, o, none⟩ = some v := by
  rw [World.cell?, hu.block b (World.block_lt_of_cell? w _ h) hn]; exact h
/-- A builder that holds the text d, whose buffer is none of the blocks from lo to hi. -/
structure IsBB (B p : Nat) (rb : Option Nat) (lo hi : Nat) (d : ByteArray) (w : World) : Prop where
  is : IsB B p rb d.data.toList w
  out : ∀ g, rb = some g → g < lo ∨ hi ≤ g
theorem IsBB.new {B p lo hi : Nat} {rb : Option Nat} {d : ByteArray} {w w' : World} (h : IsBB B p rb lo hi d w) (hu : New0 w w') : IsBB B p rb lo hi d w' := ⟨h.is.new hu, h.out⟩
theorem bbwrite (B p : Nat) (rb : Option Nat) (lo hi : Nat) (d s : ByteArray) (w : World) (h : IsBB B p rb lo hi d w) (hlen : d.size + s.size ≤ 140737488355328) (hB : B ≤ w.heap.size) (hh : hi ≤ w.heap.size) :
    Calls Tryz.prog 27 #[.pointer (some ⟨p, 0, none⟩), .string s] w fun e w' => e = .returned (.tuple #[.int .i64 s.size, .nilIface]) ∧ (∃ r', IsBB B p r' lo hi (d ++ s) w') ∧ Upon (BOwn p rb) w w' := by
  refine (bwrite_any B p rb _ s w h.is (by rw [Frm.size_list]; exact hlen) hB).mono ?_
  rintro e w' ⟨he, ⟨r', h1, h2⟩, h3⟩
  refine ⟨he, ⟨r', ⟨by rw [app_l]; exact h1, fun g hg => ?_⟩⟩, h3⟩
  rcases h2 with h2 | h2 | ⟨g', h2, h4⟩
  · exact h.out g (h2.symm.trans hg)
  · rw [h2] at hg; cases hg
  · rw [h2] at hg; injection hg with hg; omega
set_option maxHeartbeats 12800000 in
theorem prow_any (w : World) (S : Nat → Prop) (A1 : Option Addr) (c1 : Nat) (A2 : Option Addr) (c2 : Nat) (r : Row) (hl : Lb.View w S (.slice A1 r.lab.length c1) r.lab) (hp : Rw.View Hd.layP w S (.slice A2 r.pts.length c2) r.pts) (hsm : Lb.Sml r.lab) (hok : Lb.Ok r.lab) (hpo : PtsOk r) (hin : InRow r) (hpf : r.pts.length ≤ 100000) (hT : TabA w) :
    Calls Tryz.prog 63 #[.agg #[.slice A1 r.lab.length c1, .int .i64 r.last, .slice A2 r.pts.length c2]] w fun e w' => e = .returned (.string (bts (rowL r))) ∧ New0 w w' := by
  obtain ⟨wx, hwx⟩ : ∃ wx, w.alloc (.cells #[.slice A1 r.lab.length c1, .int .i64 r.last, .slice A2 r.pts.length c2] 66 (0, 0)) = wx := ⟨_, rfl⟩
  have hX := Lib.hid (box3 w (.slice A1 r.lab.length c1) r.last (.slice A2 r.pts.length c2) 66)
  have hUX := Lib.hid ((Upon.refl (fun _ => False) w).alloc (.cells #[.slice A1 r.lab.length c1, .int .i64 r.last, .slice A2 r.pts.length c2] 66 (0, 0)))
  have sx : w.heap.size < wx.heap.size := by rw [← hwx]; simp
  rw [hwx] at hX hUX
  obtain ⟨wy, hwy⟩ : ∃ wy, wx.alloc (.cells #[.pointer none, .slice none 0 0] 76 (0, 0)) = wy := ⟨_, rfl⟩
  have hI := IsB.start wx
  have hUY := (Upon.refl (fun _ => False) wx).alloc (.cells #[.pointer none, .slice none 0 0] 76 (0, 0))
  rw [hwy] at hI hUY
  have huy := Lib.hid (hUX.out.trans hUY)
  have hXy := Lib.hid (hX.out.new hUY)
  replace hUY := Lib.hid hUY
  replace hI := Lib.hid hI
  have hw2 : Hid ((w.alloc (.cells #[.slice A1 r.lab.length c1, .int .i64 r.last, .slice A2 r.pts.length c2] 66 (0, 0))).alloc (.cells #[.pointer none, .slice none 0 0] 76 (0, 0)) = wy) := Lib.hid (by rw [hwx, hwy])
  have sw : (w.alloc (.cells #[.slice A1 r.lab.length c1, .int .i64 r.last, .slice A2 r.pts.length c2] 66 (0, 0))).heap.size = wx.heap.size := by rw [hwx]
  have HL := Lb.encode_any wy S _ _ (Rw.View.new hl huy.out) hsm
  rw [Lb.encR_ok hok] at HL
  have hts := Rc.encL_len hok
  obtain ⟨tl, htl⟩ : ∃ tl : ByteArray, (⟨(Lb.encB r.lab).toArray⟩ : ByteArray) = tl := ⟨_, rfl⟩
  have hrs := RowTo.start r
  have hls : (bts (Lb.encB r.lab)).size ≤ 921 := by rw [bts_size]; exact hts
  unfold bts numA at hrs
  unfold bts at hls
  rw [htl] at HL hrs hls
  have HT := Lib.hid (fun w => Dig.text_any tl (by omega) w)
  have HS := Lib.hid (fun w => psgn r.last hin.last.1 hin.last.2 w)
  have z1 : (textA tl).size ≤ 940 := by rw [textA_size]; have := nd_le tl.size; omega
  have z2 := Mt.numA_few (zig r.last)
  have hSP := Lib.hid (fun w' (hu' : New0 w w') => Ck.split_new w' S _ _ (ptsView (Rw.View.new hp hu')) hpf)
  obtain ⟨t1, ht1⟩ : ∃ t, textA tl = t := ⟨_, rfl⟩
  obtain ⟨t2, ht2⟩ : ∃ t, Mt.numA (zig r.last) = t := ⟨_, rfl⟩
  simp only [ht1] at HT z1 hrs
  simp only [ht2] at HS z2 hrs
  have hadd := fun W => run_string_add_sum (P := Tryz.prog) W t1 t2 (by omega)
  have zz : (t1 ++ t2).size ≤ 1000 := by rw [ByteArray.size_append]; omega
  replace HL := Lib.hid HL
  replace hrs := Lib.hid hrs
  have hpart : Hid (∀ w1 v k, New0 w w1 → k < Ck.nparts r.pts → Ck.View w1 Ck.All v (Ck.part r.pts k) → Calls Tryz.prog 113 #[v] w1 fun e w' => e = .returned (.tuple #[.string (bts (Ck.code (Ck.part r.pts k))), .int .i64 0]) ∧ New0 w1 w') := Lib.hid (fun w1 v k hu hk hv => ppart w1 v r.pts (hT.new hu).c hpo.rise hin.pts hk hv)
  have hrsz : Hid (∀ k d, RowTo r k d → d.size ≤ 4000000) := Lib.hid (fun k d h => h.size hok hpf)
  have hnp : Ck.nparts r.pts ≤ 100000 := by unfold Ck.nparts; omega
  obtain ⟨z0, z3, z4⟩ := hX.out
  obtain ⟨y0, y1, y2⟩ := hXy.out
  replace hwx := Lib.hid hwx
  clear htl ht1 ht2 hls hts z1 z2 hl hp hok hsm hpo hin hpf hT
  go_enter Tryz.func63, Tryz.ntmps63
  go_wp2_with fail
  rw [hw2.out]
  refine HL.out.mono ?_
  rintro e w6 ⟨rfl, hu6⟩
  have g1 := (hXy.out.new hu6).c1
  have g2 := (hXy.out.new hu6).c2
  have hI6 := Lib.hid (hI.out.new hu6)
  have hu7 := Lib.hid (huy.out.trans hu6)
  have hs6 := hUY.out.size
  have hs7 := hu6.size
  replace hu6 := Lib.hid hu6
  clear HL hw2 z0 z3 z4 y0 y1 y2 sw
  go_wp2_with fail
  have g1d : w6.drew.cell? ⟨w.heap.size, 1, none⟩ = some (.int .i64 r.last) := g1
  go_region_held3 (fun w' => w'.cell? ⟨w.heap.size, 1, none⟩ = some (.int .i64 r.last))
    ((first | exact gc | exact gb | exact ga | exact g1d))
    (first
    | (go_at_call 65; refine (HT.out _).mono ?_; rintro e wa ⟨rfl, hba⟩; have na : New0 w6.drew wa := newOf hba; have ga := Lb.New0.cells na g1d)
    | (go_at_call 111; refine (HS.out _).mono ?_; rintro e wv ⟨rfl, hbb⟩; have nb : New0 w6.drew wv := na.trans (newOf hbb); have gb := Lb.New0.cells nb g1d)
    | (go_at_call 27; refine (bwrite_any wx.heap.size wx.heap.size none [] (t1 ++ t2) wv ((hI6.out.new (upon_drewN _ w6 1)).new nb) (by simp only [List.length_nil]; omega) (by have := nb.size; have : w6.drew.heap.size = w6.heap.size := rfl; omega)).mono ?_; rintro e wc ⟨rfl, ⟨rb, hIc, hrb⟩, hup⟩; have gc := upon_cell hup gb (fun h => Or.elim h (fun h => by omega) (fun h => by cases h)))
    | fail)
  all_goals
    have nw : Hid (New0 w wv) := Lib.hid (hu7.out.trans ((upon_drewN _ w6 1).trans nb))
    have hnc := Lib.hid (bown_new ((hI6.out.new (upon_drewN _ w6 1)).new nb) (Nat.le_of_lt sx) nw.out hup)
    have gc2 := upon_cell hup (Lb.New0.cells nb (show w6.drew.cell? ⟨w.heap.size, 2, none⟩ = some (.slice A2 r.pts.length c2) from g2)) (fun h => Or.elim h (fun h => by omega) (fun h => by cases h))
    have sc : wx.heap.size < wc.heap.size := by
      have h1 := hIc.at_.lt
      exact h1
    have hrow : ∀ g, rb = some g → g < wc.heap.size := hIc.at_.row
    replace hIc := Lib.hid hIc
    have HSPc := Lib.hid (hSP.out wc hnc.out)
    clear ga gb gc g1 g1d g2 hup hrb na nb hI6 hu6 hu7 nw hadd HT HS hSP hX hXy hUX hUY huy hI
    go_wp2_with fail
    refine HSPc.out.mono ?_
    rintro e w9 ⟨u, rfl, hP, hu9⟩
    obtain ⟨Ap, cp, rfl⟩ := Parts.shape hP.parts
    have hPN : Hid (Ck.PartsN (fun b => wc.heap.size ≤ b ∧ b < w9.heap.size) w9 (.slice Ap (Ck.nparts r.pts) cp) r.pts) := Lib.hid (hP.mono fun b h1 h2 => ⟨h2, h1⟩)
    have hB9 : Hid (IsBB wx.heap.size wx.heap.size rb wc.heap.size w9.heap.size (t1 ++ t2) w9) := Lib.hid ⟨by have := hIc.out.new hu9; rw [List.nil_append] at this; exact this, fun g hg => .inl (hrow g hg)⟩
    have hn9 := Lib.hid (hnc.out.trans hu9)
    have s9 := hu9.size
    clear HSPc hP hu9 hIc hnc hrow gc2
    go_wp2_with fail
    go_loopw [27] (fun ov wr => ∃ (k : Nat) (d : ByteArray) (rb : Option Nat), ov = .int .i64 (k : Int) ∧ k ≤ Ck.nparts r.pts ∧ w9.heap.size ≤ wr.heap.size ∧ Hid (RowTo r k d) ∧ Hid (IsBB wx.heap.size wx.heap.size rb wc.heap.size w9.heap.size d wr) ∧ Hid (Ck.PartsN (fun b => wc.heap.size ≤ b ∧ b < w9.heap.size) wr (.slice Ap (Ck.nparts r.pts) cp) r.pts) ∧ Hid (New0 w wr)) (fun ov _ => Ck.nparts r.pts - (intOf ov).toNat)
    case atStart => exact ⟨0, t1 ++ t2, rb, rfl, Nat.zero_le _, Nat.le_refl _, hrs, hB9, hPN, hn9⟩
    case round =>
      clear hrs hB9 hPN hn9
      obtain ⟨k, d, rb, rfl, hk, hsw, hrt, hBB, hPN, hn⟩ := hrel
      by_cases hkl : k < Ck.nparts r.pts
      · obtain ⟨-, pb, po, pv, rfl, q0, hpv⟩ := Parts.cell hPN.out.parts hkl
        have HE := Lib.hid (hpart.out wr pv k hn.out hkl hpv)
        have hcs : (Ck.code (Ck.part r.pts k)).length ≤ 2000 := Ck.code_size (Ck.part_len hkl).2
        have hnx := hrt.out.step hkl
        have hdz := hrsz.out k d hrt.out
        obtain ⟨cc, hcc⟩ : ∃ cc, bts (Ck.code (Ck.part r.pts k)) = cc := ⟨_, rfl⟩
        have hcz : cc.size ≤ 2000 := by rw [← hcc, bts_size]; exact hcs
        rw [hcc] at HE hnx
        have HT := Lib.hid (fun w => Dig.text_any cc (by omega) w)
        have z1 : (textA cc).size ≤ 2010 := by rw [textA_size]; have := nd_le cc.size; omega
        obtain ⟨tc, htc⟩ : ∃ tc, textA cc = tc := ⟨_, rfl⟩
        simp only [htc] at HT z1 hnx
        replace hnx := Lib.hid hnx
        clear hpv hrt hcc htc hcs hcz
        go_wp2_with fail
        refine HE.out.mono ?_
        rintro e w11 ⟨rfl, hu11⟩
        replace hu11 := Lib.hid hu11
        clear HE q0
        go_wp2_with fail
        refine (HT.out _).mono ?_
        rintro e w13 ⟨rfl, hb13⟩
        have hu13 := Lib.hid (hu11.out.trans (newOf hb13))
        have s13 := hu13.out.size
        have HW := Lib.hid (bbwrite _ _ rb _ _ d tc w13 (hBB.out.new hu13.out) (by omega) (by omega) (by omega))
        clear HT hb13 hu11
        go_wp2_with fail
        refine HW.out.mono ?_
        rintro e w15 ⟨rfl, ⟨rb', hB15⟩, hup⟩
        have hn15 := Lib.hid (bown_new (hBB.out.new hu13.out).is (Nat.le_of_lt sx) (hn.out.trans hu13.out) hup)
        have hP15 := Lib.hid ((hPN.out.upon hu13.out (fun _ _ f => f)).upon hup (fun b hb h => by
          rcases h with h | h
          · omega
          · have := hBB.out.out b h.symm; omega))
        have s15 := hup.size
        replace hB15 := Lib.hid hB15
        clear HW hup hBB hPN hn hu13
        go_wp2_with fail
        go_roundw
        case rel => exact ⟨k + 1, _, rb', by go_num, hkl, by omega, hnx, hB15, hP15, hn15⟩
        case measure => simp [intOf]; omega
      · have hdl := hrt.out.last hkl
        subst hdl
        have HW := Lib.hid (bstring_any _ _ rb _ wr hBB.out.is)
        clear hrt hpart hPN hrsz
        go_wp2_with fail
        refine HW.out.mono ?_
        rintro e w15 ⟨rfl, -, hup⟩
        have hn15 := Lib.hid (bown_new hBB.out.is (Nat.le_of_lt sx) hn.out hup)
        clear HW hup hBB hn
        go_wp2_with fail
        go_ret
        exact ⟨rfl, hn15.out⟩
theorem pputOk (k : Nat) (s : ByteArray) (h1 : 1 ≤ k) (h2 : k ≤ 255) (h : s.size ≤ 65536) (w : World) (hT : Crc.Tab w) :
    Calls Tryz.prog 26 #[.agg #[.int .i64 (k : Int), .string s]] w fun e w' => e = .returned (.tuple #[.string (Frm.putA k s), .int .i64 0]) ∧ Below w.heap.size w w' := by
  have := Frm.put_any (k : Int) s (by omega) w hT
  rw [(putS_ok h1 h2 h).1, (putS_ok h1 h2 h).2] at this
  exact this
theorem pputLong (k : Nat) (s : ByteArray) (h1 : 1 ≤ k) (h2 : k ≤ 255) (h : 65536 < s.size) (hs : s.size ≤ 9223372036854775807) (w : World) (hT : Crc.Tab w) :
    Calls Tryz.prog 26 #[.agg #[.int .i64 (k : Int), .string s]] w fun e w' => e = .returned (.tuple #[.string ⟨#[]⟩, .int .i64 8]) ∧ Below w.heap.size w w' := by
  have := Frm.put_any (k : Int) s hs w hT
  rw [(putS_long h1 h2 h).1, (putS_long h1 h2 h).2] at this
  exact this
theorem psumB (s : ByteArray) (w : World) : Calls Tryz.prog 66 #[.int .u32 ((Crc.more 0 s.data.toList : Nat) : Int)] w fun e w' => e = .returned (.string (Frm.sumB (Crc.more 0 s.data.toList))) ∧ Below w.heap.size w w' := Frm.sum_bytes _ (Crc.more_lt _ _) w
set_option maxHeartbeats 3200000 in
theorem pend_any (s : ByteArray) (hs : s.size ≤ 9223372036854775807) (w : World) (hT : Crc.Tab w) :
    Calls Tryz.prog 29 #[.string s] w fun e w' => e = .returned (.string (Frm.putA 5 (Frm.sumB (Crc.more 0 s.data.toList)))) ∧ New0 w w' := by
  have HO := Lib.hid (Crc.of_any s hs w hT)
  have HB := Lib.hid (psumB s w)
  have HP := Lib.hid (fun w' (hu : New0 w w') => pputOk 5 (Frm.sumB (Crc.more 0 s.data.toList)) (by decide) (by decide) (end_few _) w' (hT.below (belowOf hu)))
  obtain ⟨q, hq⟩ : ∃ q : Nat, Crc.more 0 s.data.toList = q := ⟨_, rfl⟩
  simp only [hq] at HO HB HP ⊢
  obtain ⟨D, hD⟩ : ∃ D, Frm.sumB q = D := ⟨_, rfl⟩
  simp only [hD] at HB HP ⊢
  go_enter Tryz.func29, Tryz.ntmps29
  go_wp2_with fail
  refine HO.out.mono ?_
  rintro e w2 ⟨rfl, rfl⟩
  go_wp2_with fail
  refine HB.out.mono ?_
  rintro e w3 ⟨rfl, hb3⟩
  have hu3 := Lib.hid (newOf hb3)
  clear HO HB hb3
  go_wp2_with fail
  refine (HP.out _ hu3.out).mono ?_
  rintro e w4 ⟨rfl, hb4⟩
  have hu4 := Lib.hid (hu3.out.trans (newOf hb4))
  clear HP hb4 hu3
  go_wp2_with fail
  go_ret
  exact ⟨rfl, hu4.out⟩
end Bk
end Go.Proofs.YtlgjbcmloochiaaGreatDoor
