/- The program's Encode (layer 9). -/
import Derived.Test.YtadlkfdjdjaakaaDoorCkMk
set_option maxRecDepth 100000
namespace Go.Proofs.YtadlkfdjdjaakaaDoor
open Go.RowKit Go.Sort
namespace Ck
open Bit Dsk Ob Dig
set_option linter.unusedVariables false

/-- The bytes of points, put together out of the objects' calls. -/
theorem peEnd {w0 w : World} {qt qv p : Nat} {c : C2} {L : List Bool} (H : Own (PE qt qv p c L) w0 w) :
    (Calls Tryd.prog 20 #[.pointer (some ⟨p, 0, none⟩)] w fun e w' => e = .returned (.int .i64 (L.length : Int)) ∧ w = w') ∧
    (Calls Tryd.prog 21 #[.pointer (some ⟨p, 0, none⟩)] w fun e w' => e = .returned (.string ⟨(pack L).toArray⟩) ∧ w = w') := by
  obtain ⟨A, h⟩ := H.seeR
  obtain ⟨_, B, _, h2, _⟩ := h
  exact ⟨wlen_any B p L w h2, Bit.text_any B p L w h2⟩
theorem peStart {w0 w : World} {qt qv p : Nat} (H : Own (Tens (Tens (Tm.IsCd qt Tm.newC) (Xr.IsCd qv Xr.newC)) (fun w S => IsW w S p [])) w0 w) : Own (PE qt qv p c0 []) w0 w :=
  H.mono fun _ h => Tens.assoc (Tens.mapL (fun _ k => Tens.swap k) h)
/-- A beginning of what is read. -/
theorem View.begin {w : World} {S : Nat → Prop} {a : Addr} {c : Nat} {l : List Pt} (h : View w S (.slice (some a) l.length c) l) {j : Nat} (hj : j ≤ l.length) : View w S (.slice (some a) j c) (l.take j) := by
  obtain ⟨A, c', h1, h2, h3, h4⟩ := h
  injection h1 with h1 _ hc
  subst h1 hc
  have hl : (l.take j).length = j := by rw [List.length_take]; omega
  refine ⟨some a, c, by rw [hl], by omega, h3, fun hp => ?_⟩
  obtain ⟨b, off, k1, k2, k3⟩ := h4 (by omega)
  refine ⟨b, off, k1, k2, fun i hi => ?_⟩
  rw [List.getElem_take]
  exact k3 i (by omega)
theorem isNx_take {l : List Pt} {j : Nat} (hj : j < l.length) {x : Int} : isNx (l.take j) x = (decide (j = 0) || decide (T l (j - 1) < x)) := by
  have hl : (l.take j).length = j := by rw [List.length_take]; omega
  unfold isNx
  rw [hl]
  by_cases h : j = 0
  · rw [decide_eq_true h, Bool.true_or, Bool.true_or]
  · rw [decide_eq_false h, Bool.false_or, Bool.false_or]
    unfold T
    rw [List.getD_eq_getElem?_getD, List.getD_eq_getElem?_getD, List.getElem?_take_of_lt (by omega)]
theorem nextB {w : World} {S : Nat → Prop} {v : Value} {l : List Pt} {x : Int} {y : Nat} (hv : View w S v l) {b : Bool} (hb : isNx l x = b) (d : Nat) (os : Array Go.Obj) :
    Calls Tryd.prog 17 #[v, ptv x y] (grow (redrawn w d) os) fun e w' => e = .returned (.bool b) ∧ Below (grow (redrawn w d) os).heap.size (grow (redrawn w d) os) w' := by
  subst hb
  exact (next_any _ S v l x y (hv.new (newOf (below_regrown w d os)))).mono fun e w' ⟨he, hu⟩ => ⟨he, belowOf hu⟩
set_option maxHeartbeats 6400000 in
theorem encode_any (w : World) (S : Nat → Prop) (v : Value) (l : List Pt) (hv : View w S v l) (hin : ∀ p ∈ l, PtIn p) (hT : Tab w) :
    Calls Tryd.prog 7 #[v] w fun e w' => e = encR l ∧ New0 w w' := by
  by_cases h1 : 1 ≤ l.length
  · by_cases h64 : l.length ≤ 64
    · have d1 : decide ((l.length : Int) < 1) = false := decide_eq_false (by omega)
      have d2 : decide ((64 : Int) < (l.length : Int)) = false := decide_eq_false (by omega)
      have hv2 := Lib.hid hv
      replace hT := Lib.hid hT
      replace hin := Lib.hid hin
      obtain ⟨A, c, rfl, hc1, hc2, hA⟩ := hv
      obtain ⟨b, off, rfl, -, hcells⟩ := hA h1
      replace hcells := Lib.hid hcells
      have hcb := hc2
      unfold maxLen at hcb
      clear hA hc2
      go_enter Tryd.func7, Tryd.ntmps7
      go_wp2_with fail
      refine (mk_any w hT.out).mono ?_
      rintro e w1 ⟨qt, qv, rfl, h1'⟩
      replace h1' := Lib.hid h1'
      go_wp2_with fail
      refine (newWriter_any w1).mono ?_
      intro x w2 hx
      obtain ⟨p, rfl, h2'⟩ := Tm.WMade.beside (thingNew qt qv) h1'.out hx
      have hM : Hid (Own (PEJ qt qv p c0 [] (Box2 w2.heap.size (ptr qt) (ptr qv) 42)) w (w2.alloc (.cells #[ptr qt, ptr qv] 42 (0, 0)))) := Lib.hid (box2Made (thingPE _ _ _ _ _) (peStart h2') _ _ _)
      clear hx h1' h2'
      go_wp2_with fail
      go_loopw [20] (fun ov wr => ∃ j : Nat, ov = .int .i64 (j : Int) ∧ j ≤ l.length ∧ Hid (Rises l j) ∧ Hid (Own (PEJ qt qv p (stps c0 (l.take j)) (ptsB c0 (l.take j)) (Box2 w2.heap.size (ptr qt) (ptr qv) 42)) w wr)) (fun ov _ => l.length - (intOf ov).toNat)
      case atStart => exact ⟨0, rfl, Nat.zero_le _, Lib.hid (Rises.zero l), hM⟩
      case round =>
        obtain ⟨j, rfl, hj, hri, hst⟩ := hrel
        clear hM d1 d2
        by_cases hlt : j < l.length
        · obtain ⟨c0', c1'⟩ := hcells.out j hlt
          obtain ⟨x, hx⟩ : ∃ x, l[j].1 = x := ⟨_, rfl⟩
          obtain ⟨y, hy⟩ : ∃ y, l[j].2 = y := ⟨_, rfl⟩
          rw [hx] at c0'
          rw [hy] at c1'
          have hxy : l[j] = (x, y) := by rw [← hx, ← hy]
          have hT' : Hid (T l j = x) := Lib.hid ((T_get hlt).trans hx)
          have hp := Lib.hid (hxy ▸ hin.out _ (List.getElem_mem hlt))
          obtain ⟨e1, e2⟩ := ptsB_take hlt c0
          rw [hxy] at e1 e2
          have hst' := hst.out
          have hb10 := lenB h64 j
          have hok := Lib.hid (ok_at hin.out j)
          have hB := Lib.hid (box2Made (Tens.ob (thingPE _ _ _ _ _) (thingBox2 _ _ _ _)) hst' (.int .i64 x) (.int .u64 (y : Int)) 36).assoc
          have hbel0 := hst'.bel
          have r0 := cell_of_below hbel0 c0'
          have r1 := cell_of_below hbel0 c1'
          have hvj := Lib.hid (((hv2.out.begin hj).new (new0_of_bel hbel0)).new ((Upon.refl _ wr).alloc (.cells #[.int .i64 x, .int .u64 (y : Int)] 36 (0, 0))))
          have q0 := (box2Cells hB.out.dropl.dropl).c0
          have q1 := (box2Cells hB.out.dropl.dropl).c1
          have y0 := fun d os => cell_regrown q0 d os
          have y1 := fun d os => cell_regrown q1 d os
          have hend := Lib.hid (new0_of_bel hB.out.bel)
          have hIn := Lib.hid (fun (w5 : World) (hu : New0 (wr.alloc (.cells #[.int .i64 x, .int .u64 (y : Int)] 36 (0, 0))) w5) => Own.upon0 (Tens.ob (thingPE _ _ _ _ _) (Tens.ob (thingBox2 _ _ _ _) (thingBox2 _ _ _ _))) hB.out hu)
          replace e1 := Lib.hid e1
          replace e2 := Lib.hid e2
          by_cases hnx : isNx (l.take j) x = true
          · have hn : Hid (Rises l (j + 1)) := Lib.hid (by
              rw [isNx_take hlt] at hnx
              by_cases h0 : j = 0
              · rw [h0]; exact Rises.one l
              · obtain ⟨k, rfl⟩ : ∃ k, j = k + 1 := ⟨j - 1, by omega⟩
                rw [decide_eq_false h0, Bool.false_or, decide_eq_true_iff] at hnx
                exact hri.out.next (by rw [hT'.out]; exact hnx))
            have hh := Lib.hid (fun d os => nextB (y := y) hvj.out hnx d os)
            clear hst' hst hbel0 hri hnx hvj hB q0 q1 hxy hx hy
            go_wp2_with fail
            refine wp_region_quiet_below (by kernel_rfl) (by kernel_rfl) ?_
            repeat (go_big_quiet_step (first
              | exact Calls.regrown_of (hh.out _ _)))
            refine wpQuiet_nil ?_
            intro _ hw'
            obtain ⟨⟨dq, osq⟩, hw''⟩ := hw'
            subst hw''
            have h5 := hIn.out _ (newOf (below_regrown _ dq osq))
            clear hIn hh r0 r1 y0 y1 hend
            generalize grow (redrawn (wr.alloc (.cells #[.int .i64 x, .int .u64 (y : Int)] 36 (0, 0))) dq) osq = w5 at *
            have k0 := (box2Cells h5.dropl.dropr).c0
            have k1 := (box2Cells h5.dropl.dropr).c1
            have q0 := (box2Cells h5.dropl.dropl).c0
            have q1 := (box2Cells h5.dropl.dropl).c1
            have HP := Lib.hid (put_any (Tens.ob (thingBox2 _ _ _ _) (thingBox2 _ _ _ _)) hT.out h5 hok.out (by omega) hp.out.1 hp.out.2)
            rw [← e1.out, ← e2.out] at HP
            clear h5 hok hp e1 e2 c0' c1' hb10
            go_wp2_with fail
            refine HP.out.mono ?_
            rintro e w6 ⟨rfl, h6⟩
            replace h6 := Lib.hid h6.cossa.dropr
            clear HP k0 k1 q0 q1
            go_wp2_with fail
            go_roundw
            case rel => exact ⟨j + 1, by go_num, hlt, hn, h6⟩
            case measure => simp [intOf]; omega
          · have hnx' : isNx (l.take j) x = false := by simpa using hnx
            have hnr := Lib.hid (show Ending.returned _ = encR l from encR_order h1 h64 (by
              rw [isNx_take hlt] at hnx'
              have h0 : j ≠ 0 := fun h => by rw [decide_eq_true h, Bool.true_or] at hnx'; cases hnx'
              obtain ⟨k, rfl⟩ : ∃ k, j = k + 1 := ⟨j - 1, by omega⟩
              rw [decide_eq_false h0, Bool.false_or, decide_eq_false_iff_not] at hnx'
              exact Rises.not hlt (by rw [hT'.out]; exact hnx')))
            have hh := Lib.hid (fun d os => nextB (y := y) hvj.out hnx' d os)
            clear hst' hst hbel0 hri hnx hnx' hvj hB q0 q1 hxy hx hy hIn hok hp e1 e2 hb10
            go_wp2_with fail
            refine wp_region_quiet_below (by kernel_rfl) (by kernel_rfl) ?_
            repeat (go_big_quiet_step (first
              | exact Calls.regrown_of (hh.out _ _)))
            refine wpQuiet_nil ?_
            intro _ hw'
            obtain ⟨⟨dq, osq⟩, hw''⟩ := hw'
            subst hw''
            have hend2 := Lib.hid (hend.out.trans (newOf (below_regrown _ dq osq)))
            clear hh r0 r1 y0 y1 hend
            generalize grow (redrawn (wr.alloc (.cells #[.int .i64 x, .int .u64 (y : Int)] 36 (0, 0))) dq) osq = w5 at *
            go_wp2_with fail
            go_ret2
            exact ⟨hnr.out, hend2.out⟩
        · obtain rfl : j = l.length := by omega
          have hrise := hri.out
          rw [List.take_length] at hst
          have hR := Lib.hid (fun s => encR_ok h1 h64 hrise (s := s))
          have hb := bits_few h64
          have hbel := Lib.hid hst.out.bel
          obtain ⟨f, hf⟩ : ∃ f : Nat → ByteArray, ∀ n, (⟨(numL n).toArray⟩ : ByteArray) = f n := ⟨_, fun _ => rfl⟩
          have t1 : Hid (∀ (w : World) (n : Nat), n ≤ 10000 → Calls Tryd.prog 19 #[.int .u64 (n : Int)] w fun e w' => e = .returned (.string (f n)) ∧ New0 w w') :=
            Lib.hid fun w n hn => (hf n ▸ Dig.num_calls n (by omega) w).mono fun e w' ⟨he, hb⟩ => ⟨he, new0_of_bel hb⟩
          have hcat := cat3 l
          have hfs : ∀ n, (f n).size ≤ 9 := fun n => by
            rw [← hf]; show (numL n).toArray.size ≤ 9; rw [List.size_toArray, numL_length]; have := nd_le n; omega
          have hs3 : (⟨(pack (ptsB c0 l)).toArray⟩ : ByteArray).size ≤ 2000 := by
            show (pack (ptsB c0 l)).toArray.size ≤ 2000; rw [List.size_toArray, pack_length]; unfold nb; omega
          rw [hf, hf] at hcat
          replace hcat := Lib.hid hcat
          have HL := Lib.hid (fun w1 (h : New0 wr w1) => peEnd (Own.upon0 (thingPE _ _ _ _ _) hst.out.dropr h))
          have i1 : IntKind.u64.wrap (l.length : Int) = (l.length : Int) := by rw [IntKind.wrap_u64]; omega
          have i2 : IntKind.u64.wrap ((ptsB c0 l).length : Int) = ((ptsB c0 l).length : Int) := by rw [IntKind.wrap_u64]; omega
          clear hst hri hrise hcells hf hv2
          generalize (⟨(pack (ptsB c0 l)).toArray⟩ : ByteArray) = s3 at *
          generalize (ptsB c0 l).length = m at *
          have hadd1 := fun (W : World) => run_string_add_sum (P := Tryd.prog) W (f l.length) (f m) (by have := hfs l.length; have := hfs m; omega)
          have hadd2 := fun (W : World) => run_string_add_sum (P := Tryd.prog) W (f l.length ++ f m) s3 (by rw [ByteArray.size_append]; have := hfs l.length; have := hfs m; omega)
          clear hfs hs3
          go_wp2_with fail
          refine (t1.out _ l.length (by omega)).mono ?_
          rintro e w4 ⟨rfl, hu4⟩
          obtain ⟨HLen, HText⟩ := HL.out w4 hu4
          clear HText
          replace HLen := Lib.hid HLen
          go_wp2_with fail
          refine HLen.out.mono ?_
          rintro e w5 ⟨rfl, rfl⟩
          clear HLen
          go_wp2_with fail
          refine (t1.out _ m (by omega)).mono ?_
          rintro e w6 ⟨rfl, hu6⟩
          obtain ⟨HLen, HText⟩ := HL.out w6 (hu4.trans hu6)
          clear HLen
          have hend := Lib.hid ((new0_of_bel hbel.out).trans (hu4.trans hu6))
          replace HText := Lib.hid HText
          clear HL hu4 hu6 t1
          go_wp2_with fail
          refine HText.out.mono ?_
          rintro e w7 ⟨rfl, rfl⟩
          clear HText
          go_wp2_with fail
          go_ret2
          exact ⟨hR.out _ hcat.out, hend.out⟩
    · have d1 : decide ((l.length : Int) < 1) = false := decide_eq_false (by omega)
      have d2 : decide ((64 : Int) < (l.length : Int)) = true := decide_eq_true (by omega)
      obtain ⟨A, c, rfl, -, -, -⟩ := hv
      have he := Lib.hid (encR_range (l := l) (.inr (by omega)))
      go_enter Tryd.func7, Tryd.ntmps7
      go_wp2_with fail
      go_ret2
      exact ⟨he.out, Upon.refl _ _⟩
  · have d1 : decide ((l.length : Int) < 1) = true := decide_eq_true (by omega)
    obtain ⟨A, c, rfl, -, -, -⟩ := hv
    have he := Lib.hid (encR_range (l := l) (.inl (by omega)))
    go_enter Tryd.func7, Tryd.ntmps7
    go_wp2_with fail
    go_ret2
    exact ⟨he.out, Upon.refl _ _⟩
end Ck
end Go.Proofs.YtadlkfdjdjaakaaDoor
