/- The program's matchers (layer 11): Is, Encode. -/
import Derived.Test.YtckphnemnbejmaaMtGet
set_option maxRecDepth 100000
namespace Go.Proofs.Ytckphnemnbejmaa
open Go.RowKit Go.Sort
namespace Mt
open Bit Dsk Ob Dig Lb
set_option linter.unusedVariables false

theorem go1 (args : Array Value) (W : World) : (callFunc 35 args).run Try.prog W = .ok (.enter 35 args) W := by kernel_rfl
theorem go2 (args : Array Value) (W : World) : (callFunc 36 args).run Try.prog W = .ok (.enter 36 args) W := by kernel_rfl
theorem go3 (args : Array Value) (W : World) : (callFunc 37 args).run Try.prog W = .ok (.enter 37 args) W := by kernel_rfl
theorem go4 (args : Array Value) (W : World) : (callFunc 39 args).run Try.prog W = .ok (.enter 39 args) W := by kernel_rfl
/-- A right matcher's question: the function that asks it. -/
theorem asked_good (w : World) {k : Int} (n v : ByteArray) (h : ¬ (k < 1 ∨ 4 < k)) : Calls Try.prog 25 #[.agg #[.int .i64 k, .string n, .string v]] w fun e w' => ∃ f c, e = .returned (.func (.func f) #[] c) ∧ w' = w.alloc (.cells #[.int .i64 k, .string n, .string v] 37 (0, 0)) ∧
    (∀ W g, W.cell? ⟨w.heap.size, 2, none⟩ = some (.string v) → Calls Try.prog f (#[.string g] ++ c) W fun e w' => e = .returned (.bool (holds (k, n, v) g)) ∧ New0 W w') ∧
    ∀ args W, (callFunc f args).run Try.prog W = .ok (.enter f args) W := by
  have : k = 1 ∨ k = 2 ∨ k = 3 ∨ k = 4 := by omega
  rcases this with rfl | rfl | rfl | rfl
  · exact (asked_any w ((1 : Int), n, v)).mono fun e w' ⟨h1, h2⟩ => ⟨_, _, h1, h2, fun W g hc => by rw [holds_1]; exact ask_1 W _ v g hc, go1⟩
  · exact (asked_any w ((2 : Int), n, v)).mono fun e w' ⟨h1, h2⟩ => ⟨_, _, h1, h2, fun W g hc => by rw [holds_2]; exact ask_2 W _ v g hc, go2⟩
  · exact (asked_any w ((3 : Int), n, v)).mono fun e w' ⟨h1, h2⟩ => ⟨_, _, h1, h2, fun W g hc => by rw [holds_3]; exact ask_3 W _ v g hc, go3⟩
  · exact (asked_any w ((4 : Int), n, v)).mono fun e w' ⟨h1, h2⟩ => ⟨_, _, h1, h2, fun W g hc => by rw [holds_4 (by decide) (by decide) (by decide)]; exact ask_4 W g, go4⟩
theorem new2 (w : World) (a b : Go.Obj) : ((w.alloc a).alloc b).heap[w.heap.size + 1]? = some b := by
  have := cell_new (w.alloc a) b
  simpa using this
set_option maxHeartbeats 3200000 in
theorem is_any (w : World) (S S' : Nat → Prop) (v lv : Value) (l : List M) (a : List Lb.Pr) (hv : View w S v l) (hb : Bnd l) (ha : Lb.View w S' lv a) :
    Calls Try.prog 13 #[v, lv] w fun e w' => e = .returned (.bool (is l a)) ∧ New0 w w' := by
  have HC := Lib.hid (check_any w S v l hv hb)
  have HG := Lib.hid (fun w' (hu : New0 w w') n => Lb.get_any w' S' lv a (Rw.View.new ha hu) n)
  obtain ⟨A, c, rfl, -, -⟩ := Rw.View.shape hv
  obtain ⟨A', c', rfl, -, -⟩ := Rw.View.shape ha
  replace hv := Lib.hid hv
  clear ha
  by_cases h0 : chk l = 0
  · have hall : Hid (all l a = is l a) := Lib.hid (is_all h0).symm
    have hri := Lib.hid (chk_zero.1 h0).2
    rw [h0] at HC
    obtain ⟨q, hq⟩ : ∃ q, is l a = q := ⟨_, rfl⟩
    rw [hq] at hall ⊢
    have hfew : l.length ≤ 8 := (chk_zero.1 h0).1
    clear hq h0 hb
    go_enter Try.func13, Try.ntmps13
    go_wp2_with fail
    refine HC.out.mono ?_
    rintro e w2 ⟨rfl, hu2⟩
    replace hu2 := Lib.hid hu2
    clear HC
    go_wp2_with fail
    go_loopw [13] (fun ov wr => ∃ j : Nat, ov = .int .i64 (j : Int) ∧ j ≤ l.length ∧ Hid (all (l.drop j) a = q) ∧ Hid (New0 w wr)) (fun ov _ => l.length - (intOf ov).toNat)
    case atStart => exact ⟨0, rfl, Nat.zero_le _, hall, hu2⟩
    case round =>
      clear hall hu2
      obtain ⟨j, rfl, hj, hg, hu⟩ := hrel
      by_cases hlt : j < l.length
      · obtain ⟨b, off, rfl, -, -, hcells⟩ := View.cells hv.out (by omega)
        obtain ⟨x0, x1, x2⟩ := hcells j hlt
        have r0 := Lb.New0.cells hu.out x0
        have r1 := Lb.New0.cells hu.out x1
        have r2 := Lb.New0.cells hu.out x2
        obtain ⟨hk1, hk2, -, -⟩ := right_zero.1 (hri.out _ (List.getElem_mem hlt))
        have hyes := Lib.hid (fun h => (all_yes hlt h).symm.trans hg.out)
        have hnot := Lib.hid (fun h => (all_not (a := a) hlt h).symm.trans hg.out)
        obtain ⟨m, hm⟩ : ∃ m, l[j] = m := ⟨_, rfl⟩
        rw [hm] at r0 r1 r2 hyes hnot hk1 hk2
        clear hcells x0 x1 x2 hm hg
        obtain ⟨k, n, z⟩ := m
        simp only at r0 r1 r2 hyes hnot hk1 hk2
        have HA := Lib.hid (fun w => asked_good w n z (k := k) (by omega))
        have hua := Lib.hid ((hu.out.alloc (.cells #[.int .i64 k, .string n, .string z] 37 (0, 0))).alloc (.cells #[.int .i64 k, .string n, .string z] 37 (0, 0)))
        have HG1 := Lib.hid (HG.out _ hua.out n)
        obtain ⟨g, hgv⟩ : ∃ g, Lb.get a n = g := ⟨_, rfl⟩
        rw [hgv] at HG1 hyes hnot
        have hc := Lib.hid (new2 wr (.cells #[.int .i64 k, .string n, .string z] 37 (0, 0)) (.cells #[.int .i64 k, .string n, .string z] 37 (0, 0)))
        clear hgv hu hk1 hk2
        go_wp2_with fail
        refine (HA.out _).mono ?_
        rintro e w3 ⟨f, c, rfl, rfl, hf, hent⟩
        replace hf := Lib.hid hf
        clear HA r0 r1 r2
        go_wp2_with fail
        refine HG1.out.mono ?_
        rintro e w4 ⟨rfl, hu4⟩
        have hu5 := Lib.hid (hua.out.trans hu4)
        have hc4 := Lib.hid (Lb.New0.cells hu4 (by rw [Lib.cell_of_heap hc.out]; rfl) : w4.cell? ⟨wr.heap.size + 1, 2, none⟩ = some (.string z))
        have HF : Hid (Calls Try.prog f (#[.string g] ++ c) w4 fun e w' => e = .returned (.bool (holds (k, n, z) g)) ∧ New0 w4 w') := Lib.hid (hf.out w4 g (by simpa using hc4.out))
        clear HG1 hua hu4 hc hf hc4
        cases hx : holds (k, n, z) g with
        | true =>
          have hG := Lib.hid (hyes.out hx)
          rw [hx] at HF
          clear hyes hnot hx
          go_wp2_with fail
          refine HF.out.mono ?_
          rintro e w5 ⟨rfl, hu6⟩
          have hu7 := Lib.hid (hu5.out.trans hu6)
          clear HF hu5 hu6 hent
          go_wp2_with fail
          go_roundw
          case rel => exact ⟨j + 1, by go_num, hlt, hG, hu7⟩
          case measure => simp [intOf]; omega
        | false =>
          have hG := Lib.hid (hnot.out hx)
          rw [hx] at HF
          clear hyes hnot hx
          go_wp2_with fail
          refine HF.out.mono ?_
          rintro e w5 ⟨rfl, hu6⟩
          have hu7 := Lib.hid (hu5.out.trans hu6)
          clear HF hu5 hu6 hent
          go_wp2_with fail
          go_ret
          exact ⟨Lb.ret_b hG.out, hu7.out⟩
      · have hE : Hid (true = q) := Lib.hid (by rw [← hg.out, all_end hlt])
        clear hg hv hri
        go_wp2_with fail
        go_ret
        exact ⟨Lb.ret_b hE.out, hu.out⟩
  · have hR : Hid (false = is l a) := Lib.hid (is_no h0).symm
    obtain ⟨z, hz⟩ : ∃ z, chk l = z := ⟨_, rfl⟩
    rw [hz] at HC h0
    have d : ((z : Int) != 0) = true := by rw [bne_iff_ne]; omega
    clear hv hb h0 hz HG
    go_enter Try.func13, Try.ntmps13
    go_wp2_with fail
    refine HC.out.mono ?_
    rintro e w1 ⟨rfl, hu1⟩
    replace hu1 := Lib.hid hu1
    clear HC
    go_wp2_with fail
    go_ret
    exact ⟨Lb.ret_b hR.out, hu1.out⟩
theorem check_is (w : World) (S : Nat → Prop) (v : Value) (l : List M) (hv : View w S v l) (hb : Bnd l) {z : Nat} (h : chk l = z) :
    Calls Try.prog 11 #[v] w fun e w' => e = .returned (.int .i64 (z : Int)) ∧ New0 w w' := by
  subst h; exact check_any w S v l hv hb
theorem So.step' {l : List M} {j : Nat} {s : ByteArray} (h : So l j s) (hj : j < l.length) : So l (j + 1) (s ++ (numA l[j].1.toNat ++ textA l[j].2.1 ++ textA l[j].2.2)) := by
  have := h.step hj
  rwa [ByteArray.append_assoc, ByteArray.append_assoc, ← ByteArray.append_assoc (a := numA _)] at this
set_option maxHeartbeats 3200000 in
theorem enc_any (w : World) (S : Nat → Prop) (v : Value) (l : List M) (hv : View w S v l) (hb : Bnd l) :
    Calls Try.prog 9 #[v] w fun e w' => e = encR l ∧ New0 w w' := by
  by_cases hok : chk l = 0
  · have HC := Lib.hid (check_is w S v l hv hb hok)
    obtain ⟨A, c, rfl, -, -⟩ := Rw.View.shape hv
    have h8 := (chk_zero.1 hok).1
    have HN : Hid (∀ w, Calls Try.prog 19 #[.int .u64 (l.length : Int)] w fun e w' => e = .returned (.string ⟨(numL l.length).toArray⟩) ∧ Below w.heap.size w w') := Lib.hid fun w => by
      have := Dig.num_any (l.length : Int) (by omega) (by omega) w
      rw [Int.toNat_natCast] at this
      exact this
    replace hv := Lib.hid hv
    replace hok := Lib.hid hok
    clear hb
    go_enter Try.func9, Try.ntmps9
    go_wp2_with fail
    refine HC.out.mono ?_
    rintro e w1 ⟨rfl, hu1⟩
    replace hu1 := Lib.hid hu1
    clear HC
    go_wp2_with fail
    refine (HN.out _).mono ?_
    rintro e w2 ⟨rfl, hb2⟩
    have hu2 := Lib.hid (hu1.out.trans (newOf hb2))
    clear HN hb2 hu1
    go_wp2_with fail
    go_loopw [5, 19] (fun sv ov wr => ∃ (j : Nat) (s : ByteArray), sv = .string s ∧ ov = .int .i64 (j : Int) ∧ j ≤ l.length ∧ Hid (So l j s) ∧ Hid (New0 w wr)) (fun _ ov _ => l.length - (intOf ov).toNat)
    case atStart => exact ⟨0, _, rfl, rfl, Nat.zero_le _, Lib.hid (So.start l), hu2⟩
    case round =>
      clear hu2
      obtain ⟨j, s, rfl, rfl, hj, hso, hu⟩ := hrel
      by_cases hlt : j < l.length
      · obtain ⟨b, off, rfl, -, -, hcells⟩ := View.cells hv.out (by omega)
        obtain ⟨x0, x1, x2⟩ := hcells j hlt
        have r0 := Lb.New0.cells hu.out x0
        have r1 := Lb.New0.cells hu.out x1
        have r2 := Lb.New0.cells hu.out x2
        have hs1 := hso.out.size hok.out
        have hri := (chk_zero.1 hok.out).2 _ (List.getElem_mem hlt)
        have hsm := right_small hri
        obtain ⟨hk1, hk2, -, -⟩ := right_zero.1 hri
        have hnx := hso.out.step' hlt
        obtain ⟨m, hm⟩ : ∃ m, l[j] = m := ⟨_, rfl⟩
        rw [hm] at r0 r1 r2 hsm hk1 hk2 hnx
        obtain ⟨k, a1, a2⟩ := m
        simp only at r0 r1 r2 hsm hk1 hk2 hnx
        obtain ⟨kn, rfl⟩ : ∃ kn : Nat, k = (kn : Int) := ⟨k.toNat, by omega⟩
        rw [Int.toNat_natCast] at hnx
        have hu3 := Lib.hid (hu.out.alloc (.cells #[.int .i64 (kn : Int), .string a1, .string a2] 37 (0, 0)))
        have hcn := cell_new wr (.cells #[.int .i64 (kn : Int), .string a1, .string a2] 37 (0, 0))
        have k0 : (wr.alloc (.cells #[.int .i64 (kn : Int), .string a1, .string a2] 37 (0, 0))).cell? ⟨wr.heap.size, 0, none⟩ = some (.int .i64 (kn : Int)) := by rw [Lib.cell_of_heap hcn]; rfl
        have k1 : (wr.alloc (.cells #[.int .i64 (kn : Int), .string a1, .string a2] 37 (0, 0))).cell? ⟨wr.heap.size, 1, none⟩ = some (.string a1) := by rw [Lib.cell_of_heap hcn]; rfl
        have k2 : (wr.alloc (.cells #[.int .i64 (kn : Int), .string a1, .string a2] 37 (0, 0))).cell? ⟨wr.heap.size, 2, none⟩ = some (.string a2) := by rw [Lib.cell_of_heap hcn]; rfl
        obtain ⟨wq, hwq⟩ : ∃ wq, wr.alloc (.cells #[.int .i64 (kn : Int), .string a1, .string a2] 37 (0, 0)) = wq := ⟨_, rfl⟩
        rw [hwq] at k0 k1 k2 hu3
        have hz0 := numA_few kn
        have H0 := fun d os => by
          have := Dig.num_any (kn : Int) (by omega) (by omega) (grow (redrawn wq d) os)
          rw [Int.toNat_natCast] at this
          exact this
        have H1 := fun d os => Dig.text_any a1 (by omega) (grow (redrawn wq d) os)
        have H2 := fun d os => Dig.text_any a2 (by omega) (grow (redrawn wq d) os)
        have hz1 := Lb.textA_few (s := a1) (by omega)
        have hz2 := Lb.textA_few (s := a2) (by omega)
        change ∀ d os, Calls _ _ _ _ (fun e w' => e = .returned (.string (numA kn)) ∧ _) at H0
        obtain ⟨t0, ht0⟩ : ∃ t0, numA kn = t0 := ⟨_, rfl⟩
        obtain ⟨t1, ht1⟩ : ∃ t1, textA a1 = t1 := ⟨_, rfl⟩
        obtain ⟨t2, ht2⟩ : ∃ t2, textA a2 = t2 := ⟨_, rfl⟩
        rw [ht0] at hz0 hnx
        simp only [ht0] at H0
        rw [ht1] at H1 hz1 hnx
        rw [ht2] at H2 hz2 hnx
        have hadd0 := fun W => run_string_add_sum (P := Try.prog) W t0 t1 (by omega)
        have hadd1 := fun W => run_string_add_sum (P := Try.prog) W (t0 ++ t1) t2 (by rw [ByteArray.size_append]; omega)
        have hadd2 := fun W => run_string_add_sum (P := Try.prog) W s (t0 ++ t1 ++ t2) (by rw [ByteArray.size_append, ByteArray.size_append]; omega)
        have y0 := fun d os => cell_regrown k0 d os
        have y1 := fun d os => cell_regrown k1 d os
        have y2 := fun d os => cell_regrown k2 d os
        have hcv : IntKind.u64.wrap (kn : Int) = (kn : Int) := by rw [IntKind.wrap_u64]; omega
        replace H0 := Lib.hid H0
        replace H1 := Lib.hid H1
        replace H2 := Lib.hid H2
        replace hnx := Lib.hid hnx
        replace hwq := Lib.hid hwq
        clear hm ht0 ht1 ht2 x0 x1 x2 hso hs1 hsm hz0 hz1 hz2 hri hcells hcn
        go_wp2_with fail
        rw [hwq.out]
        clear hwq hu r0 r1 r2
        refine wp_region_quiet_below (by kernel_rfl) (by kernel_rfl) ?_
        repeat (go_big_quiet_step (first
          | exact Calls.regrown_of (H0.out _ _)
          | exact Calls.regrown_of (H1.out _ _)
          | exact Calls.regrown_of (H2.out _ _)))
        refine wpQuiet_nil ?_
        intro _ hw'
        obtain ⟨⟨dq, osq⟩, hw''⟩ := hw'
        subst hw''
        have hu5 := Lib.hid (hu3.out.trans (newOf (below_regrown wq dq osq)))
        clear hu3 H0 H1 H2 k0 k1 k2 y0 y1 y2 hadd0 hadd1 hadd2 hcv hk1 hk2
        generalize grow (redrawn wq dq) osq = w5 at *
        go_wp2_with fail
        go_roundw
        case rel => exact ⟨j + 1, _, rfl, by go_num, hlt, hnx, hu5⟩
        case measure => simp [intOf]; omega
      · have hR : Hid (Ending.returned (.tuple #[.string s, .int .i64 0]) = encR l) := Lib.hid (by rw [encR_ok hok.out, hso.out.last hlt])
        clear hso
        go_wp2_with fail
        go_ret2
        exact ⟨hR.out, hu.out⟩
  · have hR := Lib.hid (encR_no hok)
    obtain ⟨z, hz⟩ : ∃ z, chk l = z := ⟨_, rfl⟩
    have HC := Lib.hid (check_is w S v l hv hb hz)
    obtain ⟨A, c, rfl, -, -⟩ := Rw.View.shape hv
    rw [hz] at hR hok
    have d : ((z : Int) != 0) = true := by rw [bne_iff_ne]; omega
    clear hv hb hok hz
    go_enter Try.func9, Try.ntmps9
    go_wp2_with fail
    refine HC.out.mono ?_
    rintro e w1 ⟨rfl, hu1⟩
    replace hu1 := Lib.hid hu1
    clear HC
    go_wp2_with fail
    go_ret2
    exact ⟨hR.out.symm, hu1.out⟩
end Mt
end Go.Proofs.Ytckphnemnbejmaa
