/- Layer 9: the law ChunkEven. -/
import Derived.Test.YtadlkfdjdjaakaaDoorCkLaw4
set_option maxRecDepth 100000
namespace Go.Proofs.YtadlkfdjdjaakaaDoor
open Go.RowKit Go.Sort
namespace Ck
open Bit Dsk Ob Dig
set_option linter.unusedVariables false

/-- The bytes behind the first two. -/
theorem code_two {l : List Pt} (h : 1 ≤ l.length) (h64 : l.length ≤ 64) : ∃ j, gotN ((code l).drop 2) = ((ptsB c0 l).length, j, 0) := ⟨_, (code_found h h64).two⟩
theorem code_ge {l : List Pt} (h : 1 ≤ l.length) (h64 : l.length ≤ 64) : 4 ≤ (code l).length := by
  have hb : 0 < (ptsB c0 l).length := by
    cases l with
    | nil => simp at h
    | cons p r =>
      have := Xr.putB_pos (c := c0.2) p.2
      simp only [ptsB, ptB, List.length_append]; omega
  have h1 : 1 ≤ nd (ptsB c0 l).length := by
    refine Nat.pos_of_ne_zero fun h0 => ?_
    have := nd_zero _ h0
    omega
  unfold code
  rw [List.length_append, List.length_append, numL_length, numL_length, pack_length, nd_one h h64]
  unfold nb
  omega
set_option maxHeartbeats 1600000 in
theorem many_any (w : World) (l : List Pt) (s : ByteArray) (h : 1 ≤ l.length) (h64 : l.length ≤ 64) (hs : s.data.toList = code l) :
    Calls Tryd.prog 14 #[.string s] w fun e w' => e = .returned (.int .i64 ((ptsB c0 l).length : Int)) ∧ New0 w w' := by
  obtain ⟨j, hg⟩ := code_two h h64
  have hge := code_ge h h64
  have hle := code_size h64
  have hsz : s.size = (code l).length := by rw [← hs, Array.length_toList]; rfl
  have hb := bits_few h64
  have hx : (s.extract 2 s.size).data.toList = (code l).drop 2 := by
    rw [extract_list, hs, List.take_of_length_le (by omega)]
  have hsz2 : (s.extract 2 s.size).size ≤ 9223372036854775807 := by rw [ByteArray.size_extract]; omega
  have HG := Lib.hid (get_is (s.extract 2 s.size) hsz2 (ptsB c0 l).length j 0 (by rw [hx]; exact hg) w)
  have i1 : wrap64 ((ptsB c0 l).length : Int) = ((ptsB c0 l).length : Int) := IntWalk.wrap64_in _ (by omega)
  clear hx hsz2 hg hs
  rw [← hsz] at hge hle
  clear hsz
  generalize (ptsB c0 l).length = m at *
  go_enter Tryd.func14, Tryd.ntmps14
  go_wp2_with fail
  refine HG.out.mono ?_
  rintro e w2 ⟨rfl, hb2⟩
  have hu := Lib.hid (new0_of_bel hb2)
  clear HG hb2
  go_wp2_with fail
  go_ret
  exact ⟨rfl, hu.out⟩
theorem n_of (n : Int) : ∃ M : Nat, (2 ≤ M ∧ M ≤ 64) ∧ wrap64 (2 + wrap64 ((IntKind.u64.wrap n).tmod 63)) = (M : Int) := by
  have h0 : 0 ≤ n % 18446744073709551616 := Int.emod_nonneg _ (by decide)
  refine ⟨(n % 18446744073709551616 % 63).toNat + 2, by omega, ?_⟩
  rw [IntKind.wrap_u64, Int.tmod_eq_emod_of_nonneg h0, show wrap64 (n % 18446744073709551616 % 63) = n % 18446744073709551616 % 63 from IntWalk.wrap64_in _ (by omega), IntWalk.wrap64_in _ (by omega)]
  omega
theorem d_of (d : Int) : ∃ D : Int, (1 ≤ D ∧ D ≤ 1000) ∧ wrap64 (1 + wrap64 ((IntKind.u64.wrap d).tmod 1000)) = D := by
  have h0 : 0 ≤ d % 18446744073709551616 := Int.emod_nonneg _ (by decide)
  refine ⟨1 + d % 18446744073709551616 % 1000, by omega, ?_⟩
  rw [IntKind.wrap_u64, Int.tmod_eq_emod_of_nonneg h0, show wrap64 (d % 18446744073709551616 % 1000) = d % 18446744073709551616 % 1000 from IntWalk.wrap64_in _ (by omega), IntWalk.wrap64_in _ (by omega)]
theorem t_of (t : Int) : -1099511627776 < t.tmod 1099511627776 ∧ t.tmod 1099511627776 < 1099511627776 := by
  rcases Int.le_total 0 t with h | h
  · rw [Int.tmod_eq_emod_of_nonneg h]; omega
  · have e : t = -(-t) := by omega
    rw [e, Int.neg_tmod, Int.tmod_eq_emod_of_nonneg (by omega)]; omega
/-- A row that has grown since w0. -/
structure Gr (w0 wr : World) (u : Value) (l : List Pt) : Prop where
  own : OwnPts wr u l
  mine : ∀ g, u.ownBlock = some g → w0.heap.size ≤ g
  new : New0 w0 wr
theorem Gr.start (w : World) : Gr w w (.slice none 0 0) [] := ⟨OwnPts.nil w, fun g h => (by cases h), Upon.refl _ _⟩
theorem Gr.calm {w0 wr w' : World} {u : Value} {l : List Pt} (h : Gr w0 wr u l) (hu : New0 wr w') : Gr w0 w' u l := ⟨h.own.new hu, h.mine, h.new.trans hu⟩
theorem Gr.step {w0 wr w' : World} {u u' : Value} {l m : List Pt} (h : Gr w0 wr u l) (hown : OwnPts w' u' m) (hg : wr.grownBy w' u.ownBlock) (hb : u'.ownBlock = u.ownBlock ∨ u'.ownBlock = some wr.heap.size) : Gr w0 w' u' m := by
  refine ⟨hown, fun g hk => ?_, h.new.grown hg (fun k hk => .inr (h.mine k hk))⟩
  rcases hb with hb | hb
  · exact h.mine g (by rw [← hb]; exact hk)
  · rw [hk] at hb
    have : g = wr.heap.size := by simpa using hb
    have := h.new.size
    omega
theorem View.take {w : World} {S : Nat → Prop} {A : Option Addr} {c k : Nat} {l : List Pt} (h : View w S (.slice A l.length c) l) (hk : k ≤ l.length) (m : List Pt) (hm : l.take k = m) : View w S (.slice A k c) m := by
  subst hm
  obtain ⟨A', c', h1, h2, h3, h4⟩ := h
  injection h1 with h1 _ h1c
  subst h1 h1c
  have hl : (l.take k).length = k := by rw [List.length_take]; omega
  refine ⟨A, c, by rw [hl], by omega, h3, fun hp => ?_⟩
  obtain ⟨b, off, k1, k2, k3⟩ := h4 (by omega)
  exact ⟨b, off, k1, k2, fun i hi => by rw [List.getElem_take]; exact k3 i (by omega)⟩
theorem ev_take (t d : Int) (v : Nat) {n : Nat} (h : 2 ≤ n) : (ev t d v n).take 2 = ev t d v 2 := by
  unfold ev
  rw [← List.map_take, List.take_range, Nat.min_eq_left (by omega)]
set_option maxHeartbeats 6400000 in
theorem even_new (t d x n : Int) (ht0 : -9223372036854775808 ≤ t) (ht1 : t ≤ 9223372036854775807) (hd0 : -9223372036854775808 ≤ d) (hd1 : d ≤ 9223372036854775807) (hx0 : 0 ≤ x) (hx1 : x ≤ 18446744073709551615) (hn0 : -9223372036854775808 ≤ n) (hn1 : n ≤ 9223372036854775807) (w : World) (hT : Tab w) :
    Calls Tryd.prog 6 #[.int .i64 t, .int .i64 d, .int .u64 x, .int .i64 n] w (Fin w) := by
  have HW := Lib.hid (works_true w hT)
  replace hT := Lib.hid hT
  go_enter Tryd.func6, Tryd.ntmps6
  go_wp2_with fail
  refine HW.out.mono ?_
  rintro e w2 ⟨rfl, hu2⟩
  replace hu2 := Lib.hid hu2
  clear HW
  go_wp2_with fail
  obtain ⟨N, ⟨hN2, hN⟩, eN⟩ := n_of n
  obtain ⟨D, hD, eD⟩ := d_of d
  have ht := t_of t
  obtain ⟨X, rfl⟩ := Int.eq_ofNat_of_zero_le hx0
  have hX : X < 18446744073709551616 := by omega
  simp only [eN, eD]
  generalize t.tmod 1099511627776 = t' at *
  generalize wrap64 ((IntKind.u64.wrap n).tmod 63) = z1 at *
  generalize wrap64 ((IntKind.u64.wrap d).tmod 1000) = z2 at *
  have hin := Lib.hid (fun n (h : n ≤ 65) => ev_in (t := t') (d := D) (v := X) ht hD hX h)
  have hri := Lib.hid (fun n => ev_rises (t := t') (d := D) (v := X) (n := n) hD.1)
  have hbits : Hid ((ptsB c0 (ev t' D X N)).length = (ptsB c0 (ev t' D X 2)).length + 2 * (N - 2)) := Lib.hid (by
    have := ev_bits (t := t') (d := D) (v := X) (n := N - 2) ht hD (by omega)
    rwa [show N - 2 + 2 = N by omega] at this)
  clear eN eD
  have hsm := Lib.hid (fun i (h : i < 65) => ev_small (i := i) ht hD h)
  clear ht0 ht1 hd0 hd1 hn0 hn1 hx0 hx1 hX
  replace ht := Lib.hid ht
  replace hD := Lib.hid hD
  go_loopw [9, 10] (fun u ov wr => ∃ i : Nat, ov = .int .i64 (i : Int) ∧ i ≤ N ∧ Hid (Gr w2 wr u (ev t' D X i))) (fun _ ov _ => N - (intOf ov).toNat)
  case atStart => exact ⟨0, rfl, Nat.zero_le _, Lib.hid (Gr.start w2)⟩
  case round =>
    obtain ⟨i, rfl, hi, hg⟩ := hrel
    by_cases hlt : i < N
    · obtain ⟨s1, s2, s3, s4⟩ := hsm.out i (by omega)
      have e1 : wrap64 ((i : Int) * D) = (i : Int) * D := IntWalk.wrap64_in _ (by omega)
      have e2 : wrap64 (t' + (i : Int) * D) = t' + (i : Int) * D := IntWalk.wrap64_in _ (by omega)
      have hsn := Lib.hid (ev_snoc t' D X i)
      have hlen := ev_len t' D X i
      have dlt : decide ((i : Int) < (N : Int)) = true := decide_eq_true (by omega)
      replace s1 := Lib.hid s1
      replace s2 := Lib.hid s2
      replace s3 := Lib.hid s3
      replace s4 := Lib.hid s4
      have hal : New0 wr (wr.alloc (.cells #[.int .i64 (t' + (i : Int) * D), .int .u64 (X : Int)] 36 (0, 0))) := (Upon.refl _ wr).alloc _
      have hga := Lib.hid (hg.out.calm hal)
      clear hg hal
      go_wp2_with (at_builtin; refine wpList_append_pts rfl _ _ rfl _ _ (ev t' D X i) [(t' + (i : Int) * D, X)] All rfl rfl hga.out.own (view_one (y := X) (cell_new wr _)) (by rw [List.length_singleton, hlen]; omega) ?_)
      intro u' w' hown hgr hb
      rw [← hsn.out] at hown
      have hg' := Lib.hid (hga.out.step hown hgr (hb.imp id fun h => h.trans (by simp)))
      clear hown hgr hb hga
      go_wp2_with fail
      go_roundw
      case rel => exact ⟨i + 1, by go_num, hlt, hg'⟩
      case measure => simp [intOf]; omega
    · obtain rfl : i = N := by omega
      have hvw := hg.out.own.view.all
      obtain ⟨A, c, rfl, hc1, hc2⟩ := hvw.shape
      have hlen := ev_len t' D X (i)
      have hv2 := Lib.hid (hvw.take (k := 2) (by omega) _ (ev_take t' D X hN2))
      have hnew := Lib.hid (hu2.out.trans hg.out.new)
      have h1 : Hid (enc (ev t' D X (i)) = (code (ev t' D X (i)), 0)) := Lib.hid (enc_ok (by omega) (by omega) (by rw [hlen]; exact hri.out _))
      have hlen2 := ev_len t' D X 2
      have h2 : Hid (enc (ev t' D X 2) = (code (ev t' D X 2), 0)) := Lib.hid (enc_ok (by omega) (by omega) (by rw [hlen2]; exact hri.out _))
      have HE := encode_any wr All _ _ hvw (hin.out _ (by omega)) (hT.out.new hnew.out)
      rw [encR_yes h1.out] at HE
      replace HE := Lib.hid HE
      have HM1 := Lib.hid (fun w => many_any w (ev t' D X (i)) ⟨(code (ev t' D X (i))).toArray⟩ (by omega) (by omega) rfl)
      have HM2 := Lib.hid (fun w => many_any w (ev t' D X 2) ⟨(code (ev t' D X 2)).toArray⟩ (by omega) (by omega) rfl)
      have z1 : 4 ≤ (⟨(code (ev t' D X (i))).toArray⟩ : ByteArray).size := by
        have := code_ge (l := ev t' D X (i)) (by omega) (by omega)
        show 4 ≤ (code _).toArray.size; rw [List.size_toArray]; exact this
      have z2 : 4 ≤ (⟨(code (ev t' D X 2)).toArray⟩ : ByteArray).size := by
        have := code_ge (l := ev t' D X 2) (by omega) (by omega)
        show 4 ≤ (code _).toArray.size; rw [List.size_toArray]; exact this
      have hb2 : (ptsB c0 (ev t' D X 2)).length ≤ 9280 := bits_few (by omega)
      have hE2 := Lib.hid (encR_yes h2.out)
      have hin2 := Lib.hid (hin.out 2 (by omega))
      clear hg hvw hri hsm h1 h2
      rw [hlen] at hc1
      generalize (⟨(code (ev t' D X (i))).toArray⟩ : ByteArray) = S1 at *
      generalize (⟨(code (ev t' D X 2)).toArray⟩ : ByteArray) = S2 at *
      rw [hlen] at HE
      have HF := Lib.hid (fun w hv hT => encode_any w All (.slice A 2 c) (ev t' D X 2) hv hin2.out hT)
      rw [hE2.out] at HF
      clear hE2 hin2
      generalize (ptsB c0 (ev t' D X 2)).length = m2 at *
      generalize (ptsB c0 (ev t' D X i)).length = m1 at *
      simp only [hlen]
      clear hlen hlen2 hin
      go_wp2_with fail
      refine HE.out.mono ?_
      rintro e w4 ⟨rfl, hu4⟩
      have hw4 := Lib.hid (hnew.out.trans hu4)
      have hv4 := hv2.out.new hu4
      have HF4 := Lib.hid (HF.out w4 hv4 (hT.out.new hw4.out))
      clear HE hu4 hnew hv2 hv4 HF
      go_wp2_with fail
      refine HF4.out.mono ?_
      rintro e w5 ⟨rfl, hu5⟩
      have hw5 := Lib.hid (hw4.out.trans hu5)
      clear HF4 hu5 hw4
      go_wp2_with fail
      refine (HM1.out _).mono ?_
      rintro e w6 ⟨rfl, hu6⟩
      have hw6 := Lib.hid (hw5.out.trans hu6)
      clear HM1 hu6 hw5
      go_wp2_with fail
      refine (HM2.out _).mono ?_
      rintro e w7 ⟨rfl, hu7⟩
      have hw7 := Lib.hid (hw6.out.trans hu7)
      clear HM2 hu7 hw6
      go_wp2_with fail
      go_ret
      exact ⟨ret_b (a := ((m1 : Int) == (m2 : Int) + 2 * ((i : Int) - 2))) (beq_iff_eq.2 (by have := hbits.out; omega)), hw7.out⟩
theorem Fin.end_ {w w' : World} {e : Ending} (h : Fin w e w') : e = .returned (.bool true) ∧ Below w.heap.size w w' := ⟨h.1, belowOf h.2⟩
theorem writes_true (w : World) (v : Value) (hv : IsPts v w) (hT : Tab w) : Calls Tryd.prog 3 #[v] w fun e w' => e = .returned (.bool true) ∧ Below w.heap.size w w' :=
  (writes_new w v hv hT).mono fun _ _ h => h.end_
theorem splits_true (w : World) (v : Value) (hv : IsPts v w) (hT : Tab w) : Calls Tryd.prog 5 #[v] w fun e w' => e = .returned (.bool true) ∧ Below w.heap.size w w' :=
  (splits_new w v hv hT).mono fun _ _ h => h.end_
theorem back_true (w : World) (v : Value) (s : ByteArray) (hv : IsPts v w) (hs : s.size ≤ 140737488351232) (hT : Tab w) : Calls Tryd.prog 4 #[v, .string s] w fun e w' => e = .returned (.bool true) ∧ Below w.heap.size w w' :=
  (back_new w v s hv hs hT).mono fun _ _ h => h.end_
theorem even_true (t d x n : Int) (ht0 : -9223372036854775808 ≤ t) (ht1 : t ≤ 9223372036854775807) (hd0 : -9223372036854775808 ≤ d) (hd1 : d ≤ 9223372036854775807) (hx0 : 0 ≤ x) (hx1 : x ≤ 18446744073709551615) (hn0 : -9223372036854775808 ≤ n) (hn1 : n ≤ 9223372036854775807) (w : World) (hT : Tab w) :
    Calls Tryd.prog 6 #[.int .i64 t, .int .i64 d, .int .u64 x, .int .i64 n] w fun e w' => e = .returned (.bool true) ∧ Below w.heap.size w w' :=
  (even_new t d x n ht0 ht1 hd0 hd1 hx0 hx1 hn0 hn1 w hT).mono fun _ _ h => h.end_
end Ck
end Go.Proofs.YtadlkfdjdjaakaaDoor
