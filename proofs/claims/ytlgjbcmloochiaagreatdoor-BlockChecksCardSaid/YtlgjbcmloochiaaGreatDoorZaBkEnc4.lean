/- The program's blocks (layer 15): Encode. -/
import Derived.Test.YtlgjbcmloochiaaGreatDoorZaBkEnc3
set_option maxRecDepth 100000
namespace Go.Proofs.YtlgjbcmloochiaaGreatDoor
open Go.RowKit Go.Sort
namespace Bk
open Bit Dsk Ob Dig
set_option linter.unusedVariables false

theorem parts_all_len (r : Row) (hl : Lb.Ok r.lab) (hp : r.pts.length ≤ 100000) : (rowL r).length ≤ 4000000 := by
  have h : RowTo r (Ck.nparts r.pts) (bts (rowL r)) := by
    unfold RowTo
    rw [bts_list, List.take_of_length_le (by rw [parts_len]; exact Nat.le_refl _)]; rfl
  have := h.size hl hp
  rw [bts_size] at this
  exact this
/-- What is known of a frame of a block. -/
theorem frs_known {b : B} (hg : Good b) (hf : Few b) : ∀ f ∈ frs b, 1 ≤ f.1 ∧ f.1 ≤ 255 ∧ f.2.size ≤ 4000000 ∧ (65536 < f.2.size → Long b) := fun f h => by
  rcases List.mem_cons.1 h with rfl | h
  · have h1 := headL_len b
    have h2 : (headF b).2.size ≤ 36 := by show (bts (headL b)).size ≤ _; rw [bts_size]; exact h1
    exact ⟨show 1 ≤ 2 by decide, show 2 ≤ 255 by decide, by omega, fun h => by omega⟩
  · rcases List.mem_append.1 h with h | h
    · obtain ⟨r, hr, rfl⟩ := List.mem_map.1 h
      have h2 : (rowF r).2.size = (rowL r).length := bts_size _
      have h3 := parts_all_len r (hg.lab r hr) (hf.pts r hr)
      exact ⟨show 1 ≤ 3 by decide, show 3 ≤ 255 by decide, by omega, fun h => ⟨r, hr, by omega⟩⟩
    · obtain ⟨r, hr, rfl⟩ := List.mem_map.1 h
      have h2 := delF_few (hg.dels r hr)
      have h3 : (delF r).2.size ≤ 65536 := h2
      exact ⟨show 1 ≤ 4 by decide, show 4 ≤ 255 by decide, by omega, fun h => by omega⟩
/-- The frames' bytes so far. -/
structure PF (fs : List Fr) (i : Nat) (d : ByteArray) : Prop where
  is : d.data.toList = Frm.allA (fs.take i)
  few : ∀ f ∈ fs.take i, f.2.size ≤ 65536
  size : d.size ≤ 65600 * i
theorem PF.start (fs : List Fr) : PF fs 0 ⟨#[]⟩ := ⟨by simp [Frm.allA], fun f h => by simp at h, Nat.zero_le _⟩
theorem PF.step {fs : List Fr} {i : Nat} {d : ByteArray} (h : PF fs i d) (hi : i < fs.length) (hs : fs[i].2.size ≤ 65536) : PF fs (i + 1) (d ++ Frm.putA fs[i].1 fs[i].2) := by
  refine ⟨?_, fun f hf => ?_, ?_⟩
  · rw [app_l, h.is, List.take_succ_eq_append_getElem hi, Frm.allA_append]; simp [Frm.allA]
  · rw [List.take_succ_eq_append_getElem hi] at hf
    rcases List.mem_append.1 hf with hf | hf
    · exact h.few f hf
    · rw [List.mem_singleton.1 hf]; exact hs
  · have := putA_few fs[i].1 hs
    have := h.size
    rw [ByteArray.size_append]; omega
theorem PF.last {b : B} {i : Nat} {d : ByteArray} (h : PF (frs b) i d) (hi : ¬ i < (frs b).length) : d.data.toList = Frm.allA (frs b) ∧ ¬ Long b := by
  have e : (frs b).take i = frs b := List.take_of_length_le (by omega)
  have h1 := h.is
  have h2 := h.few
  rw [e] at h1 h2
  refine ⟨h1, ?_⟩
  rintro ⟨r, hr, hl⟩
  have := h2 (rowF r) (List.mem_cons_of_mem _ (List.mem_append_left _ (List.mem_map.2 ⟨r, hr, rfl⟩)))
  have h3 : (rowF r).2.size = (rowL r).length := bts_size _
  omega
theorem pcheckIs (w : World) (S : Nat → Prop) (v : Value) (b : B) (hv : BView w S v b) (hb : Bnd b) {z : Nat} (hz : chk b = z) :
    Calls Tryz.prog 12 #[v] w fun e w' => e = .returned (.int .i64 (z : Int)) ∧ New0 w w' := by
  subst hz; exact pcheck_any w S v b hv hb
set_option maxHeartbeats 12800000 in
theorem penc_no (w : World) (S : Nat → Prop) (v : Value) (b : B) (hv : BView w S v b) (hb : Bnd b) (hz : chk b ≠ 0) :
    Calls Tryz.prog 10 #[v] w fun e w' => e = encR b ∧ New0 w w' := by
  obtain ⟨z, hz2⟩ : ∃ z, chk b = z := ⟨_, rfl⟩
  have hR := Lib.hid (encR_chk hz2 (by rw [← hz2]; exact hz))
  have hC := fun w1 (hu : New0 w w1) => pcheckIs w1 S v b (hv.new hu) hb hz2
  rw [hz2] at hz
  obtain ⟨A, c, A', c', rfl, hr, hd⟩ := BView.shape hv
  have dz : ((z : Int) != 0) = true := by rw [bne_iff_ne]; omega
  have hU := Lib.hid ((Upon.refl (fun _ => False) w).alloc (.cells #[.int .i64 b.first, .int .i64 b.til, .slice A b.rows.length c, .slice A' b.dels.length c'] 29 (0, 0)))
  obtain ⟨k0, k1, k2, k3⟩ := box4 w b.first b.til (.slice A b.rows.length c) (.slice A' b.dels.length c') 29
  have HC := Lib.hid (hC _ hU.out)
  clear hr hd hv hb hC hz2 hz
  go_enter Tryz.func10, Tryz.ntmps10
  go_wp2_with fail
  refine HC.out.mono ?_
  rintro e w2 ⟨rfl, hu2⟩
  have hu := Lib.hid (hU.out.trans hu2)
  clear HC hu2 k0 k1 k2 k3
  go_wp2_with fail
  go_ret2
  exact ⟨hR.out, hu.out⟩
set_option maxHeartbeats 12800000 in
theorem penc_yes (w : World) (S : Nat → Prop) (v : Value) (b : B) (hv : BView w S v b) (hb : Bnd b) (hf : Few b) (hz : chk b = 0) (hT : TabA w) :
    Calls Tryz.prog 10 #[v] w fun e w' => e = encR b ∧ New0 w w' := by
  have hg := chk_zero.1 hz
  have hC := fun w1 (hu : New0 w w1) => pcheckIs w1 S v b (hv.new hu) hb hz
  have hF := Lib.hid (fun w1 (hu : New0 w w1) => pframes_any w1 S v b (hv.new hu) hb hf hg (hT.new hu))
  have hknow := Lib.hid (frs_known hg hf)
  have hlast : Hid (∀ i d, PF (frs b) i d → ¬ i < (frs b).length → Ending.returned (.tuple #[.string (d ++ Frm.putA 5 (Frm.sumB (Crc.more 0 d.data.toList))), .int .i64 0]) = encR b) := Lib.hid (fun i d h hi => by
    obtain ⟨h1, h2⟩ := h.last hi
    unfold encR
    rw [enc_ok hz h2, code_end h1]; rfl)
  have hlong : Hid (Long b → Ending.returned (.tuple #[.string ⟨#[]⟩, .int .i64 8]) = encR b) := Lib.hid (fun h => by unfold encR; rw [enc_long hz h]; rfl)
  have hlen : (frs b).length ≤ 200001 := by
    have := hf.rows
    have := hf.dels
    simp only [frs, List.length_cons, List.length_append, List.length_map]; omega
  obtain ⟨A, c, A', c', rfl, hr, hd⟩ := BView.shape hv
  obtain ⟨E, hE⟩ : ∃ E, encR b = E := ⟨_, rfl⟩
  rw [hE] at hlast hlong ⊢
  obtain ⟨FR, hFR⟩ : ∃ FR, frs b = FR := ⟨_, rfl⟩
  simp only [hFR] at hF hknow hlast hlen
  have hU := Lib.hid ((Upon.refl (fun _ => False) w).alloc (.cells #[.int .i64 b.first, .int .i64 b.til, .slice A b.rows.length c, .slice A' b.dels.length c'] 29 (0, 0)))
  have hB := Lib.hid (box4 w b.first b.til (.slice A b.rows.length c) (.slice A' b.dels.length c') 29)
  obtain ⟨wb, hwb⟩ : ∃ wb, w.alloc (.cells #[.int .i64 b.first, .int .i64 b.til, .slice A b.rows.length c, .slice A' b.dels.length c'] 29 (0, 0)) = wb := ⟨_, rfl⟩
  rw [hwb] at hU hB
  have sb : w.heap.size < wb.heap.size := by rw [← hwb]; simp
  replace hwb := Lib.hid hwb
  have HC := Lib.hid (hC _ hU.out)
  obtain ⟨k0, k1, k2, k3⟩ := hB.out
  replace hT := Lib.hid hT
  clear hr hd hv hb hf hC hz hg hE hFR
  go_enter Tryz.func10, Tryz.ntmps10
  go_wp2_with fail
  rw [hwb.out]
  refine HC.out.mono ?_
  rintro e wc ⟨rfl, huc⟩
  have sc := huc.size
  have hI := IsB.start wc
  have hUY := (Upon.refl (fun _ => False) wc).alloc (.cells #[.pointer none, .slice none 0 0] 76 (0, 0))
  have hby := hB.out.new (huc.trans hUY)
  have hny := hU.out.trans (huc.trans hUY)
  have sy : wc.heap.size < (wc.alloc (.cells #[.pointer none, .slice none 0 0] 76 (0, 0))).heap.size := by simp
  have HF := Lib.hid (hF.out _ hny)
  clear k0 k1 k2 k3 HC hwb hB hF
  obtain ⟨k0, k1, k2, k3⟩ := hby
  replace hI := Lib.hid hI
  replace hny := Lib.hid hny
  clear hUY huc
  go_wp2_with fail
  obtain ⟨wy, hwy⟩ : ∃ wy, wc.alloc (.cells #[.pointer none, .slice none 0 0] 76 (0, 0)) = wy := ⟨_, rfl⟩
  rw [hwy] at HF hI hny sy
  rw [hwy]
  refine HF.out.mono ?_
  rintro e wf ⟨u, rfl, hV, huf⟩
  obtain ⟨Af, cf, rfl, hcf1, hcf2⟩ := Rw.View.shape hV
  have hV0 : Hid (Rw.View layF wf (fun b => wy.heap.size ≤ b ∧ b < wf.heap.size) (.slice Af FR.length cf) FR) := Lib.hid (hV.mono fun b h1 h2 => ⟨h2, h1⟩)
  have hB0 : Hid (IsBB wc.heap.size wc.heap.size none wy.heap.size wf.heap.size ⟨#[]⟩ wf) := Lib.hid ⟨hI.out.new huf, fun g hg => by cases hg⟩
  have hn0 := Lib.hid (hny.out.trans huf)
  have sf := huf.size
  clear HF hV huf hI hny k0 k1 k2 k3 hwy
  go_wp2_with fail
  go_loopw [18] (fun ov wr => ∃ (i : Nat) (d : ByteArray) (rb : Option Nat), ov = .int .i64 (i : Int) ∧ i ≤ FR.length ∧ wf.heap.size ≤ wr.heap.size ∧ Hid (PF FR i d) ∧ Hid (IsBB wc.heap.size wc.heap.size rb wy.heap.size wf.heap.size d wr) ∧ Hid (Rw.View layF wr (fun b => wy.heap.size ≤ b ∧ b < wf.heap.size) (.slice Af FR.length cf) FR) ∧ Hid (New0 w wr)) (fun ov _ => FR.length - (intOf ov).toNat)
  case atStart => exact ⟨0, ⟨#[]⟩, none, rfl, Nat.zero_le _, Nat.le_refl _, Lib.hid (PF.start FR), hB0, hV0, hn0⟩
  case round =>
    clear hB0 hV0 hn0
    obtain ⟨i, d, rb, rfl, hi, hsw, hpf, hBB, hV, hn⟩ := hrel
    by_cases hil : i < FR.length
    · obtain ⟨fb, fo, rfl, -, hfw, hcl⟩ := Rw.View.open hV.out (by omega)
      have q0 : wr.cell? ⟨fb, fo + i * 2, none⟩ = some (.int .i64 (FR[i].1 : Int)) := hcl i hil 0 _ rfl
      have q1 : wr.cell? ⟨fb, fo + i * 2 + 1, none⟩ = some (.string FR[i].2) := hcl i hil 1 _ rfl
      obtain ⟨h1, h2, h3, h4⟩ := hknow.out _ (List.getElem_mem hil)
      have hnx := Lib.hid (hpf.out.step hil)
      have hdz := hpf.out.size
      obtain ⟨f, hf⟩ : ∃ f, FR[i] = f := ⟨_, rfl⟩
      rw [hf] at q0 q1 h1 h2 h3 h4 hnx
      obtain ⟨fk, fd⟩ := f
      simp only at q0 q1 h1 h2 h3 h4 hnx
      clear hcl hf hpf
      by_cases h6 : fd.size ≤ 65536
      · have hp1 := hnx.out h6
        have HP := Lib.hid (fun w' (hu : New0 w w') => pputOk fk fd h1 h2 h6 w' (hT.out.new hu).s)
        have hpz := putA_few fk h6
        obtain ⟨P, hP⟩ : ∃ P, Frm.putA fk fd = P := ⟨_, rfl⟩
        simp only [hP] at HP hp1 hpz
        replace hp1 := Lib.hid hp1
        have hna := hn.out.alloc (.cells #[.int .i64 (fk : Int), .string fd] 80 (0, 0))
        have HP1 := Lib.hid (HP.out _ hna)
        have hBa := Lib.hid (hBB.out.new ((Upon.refl (fun _ => False) wr).alloc (.cells #[.int .i64 (fk : Int), .string fd] 80 (0, 0))))
        have hVa := Lib.hid (Rw.View.new hV.out ((Upon.refl (fun _ => False) wr).alloc (.cells #[.int .i64 (fk : Int), .string fd] 80 (0, 0))))
        have sa : wf.heap.size ≤ (wr.alloc (.cells #[.int .i64 (fk : Int), .string fd] 80 (0, 0))).heap.size := by simp; omega
        replace hna := Lib.hid hna
        clear hnx hP HP h1 h2 h3 h4 h6 hBB hV hn
        go_wp2_with fail
        refine HP1.out.mono ?_
        rintro e w8 ⟨rfl, hb8⟩
        have hu8 := Lib.hid (newOf hb8)
        have s8 := hu8.out.size
        have HW := Lib.hid (bbwrite _ _ rb _ _ d P w8 (hBa.out.new hu8.out) (by omega) (by omega) (by omega))
        clear HP1 hb8 q0 q1
        go_wp2_with fail
        refine HW.out.mono ?_
        rintro e w9 ⟨rfl, ⟨rb', hB9⟩, hup⟩
        have hn9 := Lib.hid (bown_new (hBa.out.new hu8.out).is (by omega) (hna.out.trans hu8.out) hup)
        have hV9 := Lib.hid (Rw.View.upon (Rw.View.new hVa.out hu8.out) hup (fun b hb h => by
          rcases h with h | h
          · omega
          · have := hBa.out.out b h.symm; omega))
        have s9 := hup.size
        replace hB9 := Lib.hid hB9
        clear HW hup hBa hVa hna hu8
        go_wp2_with fail
        go_roundw
        case rel => exact ⟨i + 1, _, rb', by go_num, hil, by omega, hp1, hB9, hV9, hn9⟩
        case measure => simp [intOf]; omega
      · have hR := Lib.hid (hlong.out (h4 (by omega)))
        have HP := Lib.hid (fun w' (hu : New0 w w') => pputLong fk fd h1 h2 (by omega) (by omega) w' (hT.out.new hu).s)
        have hna := hn.out.alloc (.cells #[.int .i64 (fk : Int), .string fd] 80 (0, 0))
        have HP1 := Lib.hid (HP.out _ hna)
        replace hna := Lib.hid hna
        clear hnx HP h1 h2 h3 h4 h6 hBB hV hn
        go_wp2_with fail
        refine HP1.out.mono ?_
        rintro e w8 ⟨rfl, hb8⟩
        have hu8 := Lib.hid (hna.out.trans (newOf hb8))
        clear HP1 hb8 q0 q1
        go_wp2_with fail
        go_ret2
        exact ⟨hR.out, hu8.out⟩
    · have hR := hlast.out i d hpf.out hil
      have hdz := hpf.out.size
      have HS := Lib.hid (fun w' (h : IsBB wc.heap.size wc.heap.size rb wy.heap.size wf.heap.size d w') => bstring_any _ _ rb _ w' h.is)
      have HS1 := Lib.hid (HS.out wr hBB.out)
      have e9 : (⟨d.data.toList.toArray⟩ : ByteArray) = d := rfl
      have HE := Lib.hid (fun w' (hu : New0 w w') => pend_any d (by omega) w' (hT.out.new hu).s)
      have hpz := putA_few 5 (end_few (Crc.more 0 d.data.toList))
      obtain ⟨P, hP⟩ : ∃ P, Frm.putA 5 (Frm.sumB (Crc.more 0 d.data.toList)) = P := ⟨_, rfl⟩
      simp only [hP] at HE hR hpz
      have hadd := fun W => run_string_add_sum (P := Tryz.prog) W d P (by omega)
      replace hR := Lib.hid hR
      clear hP hpz hlast hlong hknow hpf hV
      go_wp2_with fail
      refine HS1.out.mono ?_
      rintro e w5 ⟨rfl, hI5, hup5⟩
      have hn5 := Lib.hid (bown_new hBB.out.is (by omega) hn.out hup5)
      have HS2 := Lib.hid (HS.out w5 ⟨hI5, hBB.out.out⟩)
      replace hI5 := Lib.hid hI5
      clear HS1 hup5 hn hBB HS
      go_wp2_with fail
      refine HS2.out.mono ?_
      rintro e w6 ⟨rfl, hI6, hup6⟩
      have hn6 := Lib.hid (bown_new hI5.out (by omega) hn5.out hup6)
      clear HS2 hup6 hn5 hI5 hI6
      go_wp2_with fail
      refine (HE.out _ hn6.out).mono ?_
      rintro e w7 ⟨rfl, hu7⟩
      have hn7 := Lib.hid (hn6.out.trans hu7)
      clear HE hu7 hn6
      go_wp2_with fail
      go_ret2
      exact ⟨hR.out, hn7.out⟩
theorem penc_any (w : World) (S : Nat → Prop) (v : Value) (b : B) (hv : BView w S v b) (hb : Bnd b) (hf : Few b) (hT : TabA w) :
    Calls Tryz.prog 10 #[v] w fun e w' => e = encR b ∧ New0 w w' := by
  by_cases hz : chk b = 0
  · exact penc_yes w S v b hv hb hf hz hT
  · exact penc_no w S v b hv hb hz
end Bk
end Go.Proofs.YtlgjbcmloochiaaGreatDoor
