/- TimesWrites, TimesReads, walked: beside the document's own coder. -/
import Derived.Test.YtjoaccfjjihleaaDoorTmLaw1
import Derived.Test.YtjoaccfjjihleaaDoorArgNums
namespace Go.Proofs.YtjoaccfjjihleaaDoor
open Go.RowKit Go.Sort
namespace Tm
open Bit Dsk Ob Arg
set_option linter.unusedVariables false

theorem nats_i64 {zs : List Int} (h : ∀ i (h : i < zs.length), (Lit.int .i64 zs[i]).wf = true) : I64 zs := fun v hv => by
  obtain ⟨i, hi, rfl⟩ := List.getElem_of_mem hv
  exact wf_i64 (h i hi)
theorem nats_at {zs : List Int} {k : Nat} {V : Int} (h : k < zs.length) (hV : zs[k] = V) : zs.take k ++ [V] = zs.take (k + 1) := by
  rw [List.take_succ_eq_append_getElem h, hV]
theorem nats_take_i64 {l : List Int} (h : I64 l) (k : Nat) : I64 (l.take k) := fun v hv => h v (List.mem_of_mem_take hv)
theorem nums_wf {k : IntKind} {zs : List Int} {A : Option Addr} {w : World} (h : NumsAt k zs A w) : ∀ i (hi : i < zs.length), (Lit.int k zs[i]).wf = true := fun i hi => by
  obtain ⟨b, off, _, _, h3⟩ := h (by omega)
  exact (h3 i hi).2
/-! ### TimesWrites -/
abbrev OWD (w0 : World) (q p : Nat) (l : List Int) (q2 p2 : Nat) (m : List Int) (w : World) : Prop := Own (Tens (RW q p l) (DW q2 p2 m)) w0 w
theorem thingDW (q p : Nat) (l : List Int) : Thing (DW q p l) := thingCW _ _ _ _
theorem thingOWD (q p : Nat) (l : List Int) (q2 p2 : Nat) (m : List Int) : Thing (Tens (RW q p l) (DW q2 p2 m)) := Tens.ob (thingRW _ _ _) (thingDW _ _ _)
theorem OWD.len {w0 w : World} {q p q2 p2 : Nat} {l m : List Int} (h : OWD w0 q p l q2 p2 m w) {n : Nat} (hn : (putsB newC l).length = n) (d : Nat) (os : Array Go.Obj) :
    Calls Tryd.prog 12 #[.pointer (some ⟨p, 0, none⟩)] (grow (redrawn w d) os) fun e w' => e = .returned (.int .i64 (n : Int)) ∧ Below (grow (redrawn w d) os).heap.size (grow (redrawn w d) os) w' :=
  (rwLen (Own.calm (thingOWD _ _ _ _ _ _) h d os) hn).mono fun _ _ ⟨he, hw⟩ => ⟨he, hw ▸ below_refl' _⟩
theorem OWD.text {w0 w : World} {q p q2 p2 : Nat} {l m : List Int} (h : OWD w0 q p l q2 p2 m w) {s : ByteArray} (hs : (⟨(pack (putsB newC l)).toArray⟩ : ByteArray) = s) (d : Nat) (os : Array Go.Obj) :
    Calls Tryd.prog 13 #[.pointer (some ⟨p, 0, none⟩)] (grow (redrawn w d) os) fun e w' => e = .returned (.string s) ∧ Below (grow (redrawn w d) os).heap.size (grow (redrawn w d) os) w' :=
  (rwText (Own.calm (thingOWD _ _ _ _ _ _) h d os) hs).mono fun _ _ ⟨he, hw⟩ => ⟨he, hw ▸ below_refl' _⟩
theorem OWD.reftext {w0 w : World} {q p q2 p2 : Nat} {l m : List Int} (h : OWD w0 q p l q2 p2 m w) (hn : m.length ≤ 1000) {s : ByteArray} (hs : (⟨(pack (putsB newC m)).toArray⟩ : ByteArray) = s) (d : Nat) (os : Array Go.Obj) :
    Calls Tryd.prog 14 #[.pointer (some ⟨p2, 0, none⟩)] (grow (redrawn w d) os) fun e w' => e = .returned (.string s) ∧ Below (grow (redrawn w d) os).heap.size (grow (redrawn w d) os) w' := by
  obtain ⟨A, h1⟩ := (Own.calm (thingOWD _ _ _ _ _ _) h d os).seeR
  obtain ⟨_, B, _, h2, _⟩ := h1
  subst hs
  exact reftext_any B p2 _ _ h2 (by have := puts_len hn; omega)
theorem OWD.cell {w0 w : World} {q p q2 p2 : Nat} {l m : List Int} (h : OWD w0 q p l q2 p2 m w) {n : Nat} (hn : (putsB newC m).length = n) : ∃ A c, w.cell? ⟨p2, 0, none⟩ = some (.slice A n c) := by
  subst hn
  obtain ⟨A, h1⟩ := h.seeR
  obtain ⟨_, B, _, ⟨rv, hr⟩, _⟩ := h1
  have k0 : w.cell? ⟨p2, 0, none⟩ = some rv := by rw [Lib.cell_of_heap hr.cell]; rfl
  rcases hr.row.2 with ⟨hv, h0⟩ | ⟨g, cap, cur, hv, _⟩
  · exact ⟨none, 0, by rw [k0, hv, h0]⟩
  · exact ⟨_, _, by rw [k0, hv]⟩
theorem refCoderNew (w : World) : IsRC w.heap.size newC (w.alloc (.cells #[.bool false, .int .i64 0, .int .i64 0] 27 (0, 0))) (fun x => x = w.heap.size) := ⟨cell_new w _, fun x => Iff.rfl⟩
set_option maxRecDepth 100000 in
set_option maxHeartbeats 3200000 in
theorem writes_any (zs : List Int) (A : Option Addr) (c : Nat) (hmax : zs.length ≤ maxLen) (w : World) (hT : Tab w) (hp : NumsAt .i64 zs A w) :
    Calls Tryd.prog 3 #[.slice A zs.length c] w fun e w' => e = .returned (.bool true) ∧ Below w.heap.size w w' := by
  replace hmax : zs.length ≤ 9223372036854775807 := by unfold maxLen at hmax; omega
  have hU := Lib.hid (nats_i64 (nums_wf hp))
  replace hp := Lib.hid hp
  replace hT := Lib.hid hT
  go_enter Tryd.func3, Tryd.ntmps3
  go_wp2_with fail
  refine (new_any w hT.out).mono ?_
  intro x w1 hx
  obtain ⟨q, rfl, h1⟩ := CMade.own (Below.refl _ w) hx
  clear hx
  have h2 : Hid (Own (Tens (IsCd q newC) (IsRC w1.heap.size newC)) w (w1.alloc (.cells #[.bool false, .int .i64 0, .int .i64 0] 27 (0, 0)))) := Lib.hid (Own.new (objCd _ _) h1 (refCoderNew w1) (fun b hb => by rw [hb]; exact Nat.le_refl _) ((Upon.refl _ w1).alloc _))
  clear h1
  go_wp2_with fail
  generalize w1.alloc (.cells #[.bool false, .int .i64 0, .int .i64 0] 27 (0, 0)) = w2 at *
  generalize w1.heap.size = q2 at *
  refine (newWriter_any w2).mono ?_
  intro x w3 hx
  obtain ⟨p, rfl, h3⟩ := WMade.beside (Tens.ob (objCd _ _) (objRC _ _)) h2.out hx
  clear hx h2
  have h4 : Hid (OWD w q p [] q2 w3.heap.size [] (w3.alloc (.cells #[.slice none 0 0] 33 (0, 0)))) := Lib.hid ((Own.new (Tens.ob (Tens.ob (objCd _ _) (objRC _ _)) (objW _ _)) h3 (newRW w3) (fun b hb => by rw [hb]; exact Nat.le_refl _) ((Upon.refl _ w3).alloc _)).mono fun S h => Tens.mid (Tens.assoc h))
  clear h3
  go_wp2_with fail
  generalize w3.alloc (.cells #[.slice none 0 0] 33 (0, 0)) = w4 at *
  generalize w3.heap.size = p2 at *
  go_loopw [7] (fun i wr => ∃ k : Nat, k ≤ zs.length ∧ k ≤ 60 ∧ i = .int .i64 k ∧ OWD w q p (zs.take k) q2 p2 (zs.take k) wr) (fun i _ => zs.length - (intOf i).toNat)
  case atStart => exact ⟨0, Nat.zero_le _, Nat.zero_le _, rfl, h4.out⟩
  case round =>
    obtain ⟨k, hk, hk2, rfl, hst⟩ := hrel
    by_cases hlt : k < zs.length ∧ k < 60
    · obtain ⟨hlt, hlt2⟩ := hlt
      obtain ⟨b, off, rfl, hbw, hall⟩ := hp.out (by omega)
      obtain ⟨cw0, w0⟩ := hall k hlt
      obtain ⟨V, hV⟩ : ∃ V, zs[k] = V := ⟨_, rfl⟩
      have hVl : In V := by rw [← hV]; exact wf_i64 w0
      have hsn := Lib.hid (nats_at hlt hV)
      rw [hV] at cw0
      have c0 := (hst.bel.cell (p := ⟨b, off + k, none⟩) hbw).trans cw0
      replace cw0 := Lib.hid cw0
      have hlen : Hid ((zs.take k).length ≤ 1000) := Lib.hid (by rw [List.length_take]; omega)
      have hlen2 : Hid ((zs.take (k + 1)).length ≤ 1000) := Lib.hid (by rw [List.length_take]; omega)
      have hUk := Lib.hid (nats_take_i64 hU.out k)
      obtain ⟨l', hl'⟩ : ∃ l', l' = zs.take (k + 1) := ⟨_, rfl⟩
      rw [← hl'] at hsn hlen2
      have hE' := Lib.hid hl'
      clear hl'
      generalize zs.take k = l at *
      have hput := Lib.hid (ownL (thingDW _ _ _) hst fun A hA h => rwPut hT.out hst.bel hUk.out hlen.out hVl hsn.out A hA h)
      replace hVl := Lib.hid hVl
      clear hall hV w0 hst h4
      go_wp2_with fail
      refine hput.out.mono ?_
      rintro x w5 ⟨rfl, h5⟩
      clear hput c0
      have c0 := (h5.bel.cell (p := ⟨b, off + k, none⟩) hbw).trans cw0.out
      have hput := Lib.hid (ownR (thingRW _ _ _) h5 fun A hA h => dwPut hUk.out hlen.out hVl.out hsn.out A h)
      clear h5
      go_wp2_with fail
      refine hput.out.mono ?_
      rintro x w6 ⟨rfl, h6⟩
      clear hput c0
      replace h6 := Lib.hid h6
      go_wp2_with fail
      obtain ⟨n, hn⟩ : ∃ n, (putsB newC l').length = n := ⟨_, rfl⟩
      obtain ⟨s, hs⟩ : ∃ s : ByteArray, (⟨(pack (putsB newC l')).toArray⟩ : ByteArray) = s := ⟨_, rfl⟩
      have t1 := Lib.hid (fun d os => OWD.len h6.out hn d os)
      have t2 := Lib.hid (fun d os => OWD.text h6.out hs d os)
      have t3 := Lib.hid (fun d os => OWD.reftext h6.out hlen2.out hs d os)
      obtain ⟨A2, c2, k0⟩ := OWD.cell h6.out hn
      have k0' := fun d os => cell_regrown k0 d os
      clear k0 hs hn
      refine wp_region_quiet_below (by kernel_rfl) (by kernel_rfl) ?_
      repeat (go_big_quiet_step (first
        | exact Calls.regrown_of (t1.out _ _)
        | exact Calls.regrown_of (t2.out _ _)
        | exact Calls.regrown_of (t3.out _ _)))
      refine wpQuiet_nil ?_
      intro _ hw'
      obtain ⟨⟨dq, osq⟩, hw''⟩ := hw'
      subst hw''
      have h7 := Lib.hid (Own.calm (thingOWD _ _ _ _ _ _) h6.out dq osq)
      clear t1 t2 t3 k0' h6
      generalize grow (redrawn w6 dq) osq = w7 at *
      go_wp2_with fail
      go_roundw
      case rel => exact ⟨k + 1, by omega, by omega, by go_num, hE'.out ▸ h7.out⟩
      case measure => simp [intOf]; omega
    · have hb : Hid (Below w.heap.size w wr) := Lib.hid hst.bel
      have hcond : decide (k < zs.length) = false ∨ (decide (k < zs.length) = true ∧ decide ((k : Int) < 60) = false) := by
        by_cases h : k < zs.length
        · right; simp; omega
        · left; simp; omega
      clear hst h4 hlt
      rcases hcond with hc1 | ⟨hc1, hc2⟩
      all_goals
        go_wp2_with fail
        go_ret
        exact ⟨rfl, hb.out⟩
theorem writes_true (w : World) (v : Value) (hv : IsNums .i64 v w) (hT : Tab w) :
    Calls Tryd.prog 3 #[v] w fun e w' => e = .returned (.bool true) ∧ Below w.heap.size w w' := by
  obtain ⟨zs, A, c, rfl, hm, hp⟩ := hv
  exact writes_any zs A c hm w hT hp
theorem open_i64s {H : Type} {enc : TypeId × Value → H} {W : World} {base : Nat} {v : Value} {d : DataW H} {p : List MemPlace} (hv : Value.okWide Tryd.prog W .any base 22 v)
    (h : DataW.Trod enc Tryd.prog W 0 (fun _ => true) true 22 v d p) : IsNums .i64 v W :=
  open_nums Tryd.underlying22 Tryd.underlying2 (by kernel_rfl) hv h

/-! ### TimesReads -/
/-- Two coders of one state, two readers of one row of bits. -/
abbrev Two (q p q2 p2 : Nat) (c : Cd) (K : List Bool) : Ob.Rel := Tens (PR q c p K) (CR q2 c p2 K)
theorem twoGet {w0 w : World} {q p q2 p2 : Nat} {c : Cd} {K : List Bool} (hT : Tab w0) (hok : c.Ok) (H : Own (Two q p q2 p2 c K) w0 w) {v : Int} {n : Nat} (hg : getR c K = some (v, n)) :
    Calls Tryd.prog 17 #[.pointer (some ⟨q, 0, none⟩), .pointer (some ⟨p, 0, none⟩)] w fun e w' => e = .returned (.tuple #[.int .i64 v, .bool true]) ∧ Own (Tens (PR q (putC c v) p (K.drop n)) (CR q2 c p2 K)) w0 w' :=
  ownL (Q := fun e => e = .returned (.tuple #[.int .i64 v, .bool true])) (thingCR _ _ _ _) H fun A hA h => by
    have := cdGet_any A q p c K w h hok (hT.beside H.bel hA)
    rw [hg] at this
    exact this
theorem twoNo {w0 w : World} {q p q2 p2 : Nat} {c : Cd} {K : List Bool} (hT : Tab w0) (hok : c.Ok) (H : Own (Two q p q2 p2 c K) w0 w) (hg : getR c K = none) :
    Calls Tryd.prog 17 #[.pointer (some ⟨q, 0, none⟩), .pointer (some ⟨p, 0, none⟩)] w fun e w' => e = .returned (.tuple #[.int .i64 0, .bool false]) ∧ Own (Tens (PX q p) (CR q2 c p2 K)) w0 w' :=
  ownL (Q := fun e => e = .returned (.tuple #[.int .i64 0, .bool false])) (thingCR _ _ _ _) H fun A hA h => by
    have := cdGet_any A q p c K w h hok (hT.beside H.bel hA)
    rw [hg] at this
    exact this
theorem refGet2 {I : Ob.Rel} (hI : Thing I) {w0 w : World} {q2 p2 : Nat} {c : Cd} {K : List Bool} (hok : c.Ok) (hK : K.length ≤ 1000000) (H : Own (Tens I (CR q2 c p2 K)) w0 w) {v : Int} {n : Nat} (hg : getR c K = some (v, n)) :
    Calls Tryd.prog 18 #[.pointer (some ⟨q2, 0, none⟩), .pointer (some ⟨p2, 0, none⟩)] w fun e w' => e = .returned (.tuple #[.int .i64 v, .bool true]) ∧ Own (Tens I (CR q2 (putC c v) p2 (K.drop n))) w0 w' := by
  obtain ⟨S, hS, go⟩ := Fall.own H
  obtain ⟨A, hA, go2⟩ := Fall.right hI hS
  have := refGetP_any A q2 p2 c K w hA hok hK
  rw [hg] at this
  exact this.mono fun e w' ⟨he, hs⟩ => ⟨he, go _ _ (go2 _ _ hs)⟩
theorem refNo2 {I : Ob.Rel} (hI : Thing I) {w0 w : World} {q2 p2 : Nat} {c : Cd} {K : List Bool} (hok : c.Ok) (hK : K.length ≤ 1000000) (H : Own (Tens I (CR q2 c p2 K)) w0 w) (hg : getR c K = none) :
    Calls Tryd.prog 18 #[.pointer (some ⟨q2, 0, none⟩), .pointer (some ⟨p2, 0, none⟩)] w fun e w' => e = .returned (.tuple #[.int .i64 0, .bool false]) ∧ Below w0.heap.size w0 w' := by
  obtain ⟨S, hS, go⟩ := Fall.own H
  obtain ⟨A, hA, go2⟩ := Fall.right hI hS
  have := refGetP_any A q2 p2 c K w hA hok hK
  rw [hg] at this
  exact this.mono fun e w' ⟨he, c', K', hs⟩ => ⟨he, (go _ _ (go2 _ _ hs)).bel⟩
theorem ofRK {w : World} {S : Nat → Prop} {q : Nat} {s : ByteArray} {e : Nat} (h : IsR w S q s 0 e) : IsRK w S q (bitsAt s.data.toList 0 e) := ⟨s, 0, e, h, by rw [Nat.sub_zero]⟩
set_option maxRecDepth 100000 in
set_option maxHeartbeats 3200000 in
theorem reads_any (s : ByteArray) (n : Int) (hs : s.size ≤ 300) (hn0 : -9223372036854775808 ≤ n) (hn1 : n ≤ 9223372036854775807) (w : World) (hT : Tab w) :
    Calls Tryd.prog 4 #[.string s, .int .i64 n] w fun e w' => e = .returned (.bool true) ∧ Below w.heap.size w w' := by
  replace hT := Lib.hid hT
  go_enter Tryd.func4, Tryd.ntmps4
  go_wp2_with fail
  refine (new_any w hT.out).mono ?_
  intro x w1 hx
  obtain ⟨q, rfl, h1⟩ := CMade.own (Below.refl _ w) hx
  clear hx
  have h2 : Hid (Own (Tens (IsCd q newC) (IsRC w1.heap.size newC)) w (w1.alloc (.cells #[.bool false, .int .i64 0, .int .i64 0] 27 (0, 0)))) := Lib.hid (Own.new (objCd _ _) h1 (refCoderNew w1) (fun b hb => by rw [hb]; exact Nat.le_refl _) ((Upon.refl _ w1).alloc _))
  clear h1
  go_wp2_with fail
  generalize w1.alloc (.cells #[.bool false, .int .i64 0, .int .i64 0] 27 (0, 0)) = w2 at *
  generalize w1.heap.size = q2 at *
  refine (newReader_any s n (by omega) ⟨hn0, hn1⟩ w2).mono ?_
  rintro x w3 ⟨T, p, rfl, k1, k2, k3⟩
  have h3 : Hid (Own (Tens (Tens (IsCd q newC) (IsRC q2 newC)) (fun w S => IsRK w S p (bitsAt s.data.toList 0 (ends s n)))) w w3) := Lib.hid (Own.new (Tens.ob (objCd _ _) (objRC _ _)) h2.out (ofRK k1) k2 k3)
  clear k1 k2 k3 h2
  go_wp2_with fail
  refine (refNewReader_any s n (by omega) hn0 hn1 w3).mono ?_
  rintro x w4 ⟨p2, rfl, h4, -⟩
  have hKl : (bitsAt s.data.toList 0 (ends s n)).length ≤ 1000000 := by rw [bitsAt_length]; unfold ends; omega
  have h5 : Hid (Own (Two q p q2 p2 newC (bitsAt s.data.toList 0 (ends s n))) w w4) := Lib.hid (by
    obtain ⟨⟨T, hT, hTw⟩, hbel⟩ := h4
    exact (Own.new (Tens.ob (Tens.ob (objCd _ _) (objRC _ _)) (objRK _ _)) h3.out (T := T) (IsRR.of_filled hT) hTw (Upon.of_below hbel _)).mono fun S h => Tens.mid (Tens.assoc h))
  clear h3 h4
  generalize bitsAt s.data.toList 0 (ends s n) = K0 at *
  have hok0 : Cd.Ok newC := ok_new
  generalize newC = c0 at *
  replace hKl := Lib.hid hKl
  replace hok0 := Lib.hid hok0
  go_wp2_with fail
  go_loopw [9] (fun i wr => ∃ (k : Nat) (c : Cd) (K : List Bool), k ≤ 100 ∧ i = .int .i64 k ∧ Hid (c.Ok ∧ K.length ≤ 1000000) ∧ Own (Two q p q2 p2 c K) w wr) (fun i _ => 100 - (intOf i).toNat)
  case atStart => exact ⟨0, c0, K0, Nat.zero_le _, rfl, Lib.hid ⟨hok0.out, hKl.out⟩, h5.out⟩
  case round =>
    obtain ⟨k, c, K, hk, rfl, hc, hst⟩ := hrel
    by_cases hlt : k < 100
    · cases hg : getR c K with
      | none =>
        have hget := Lib.hid (twoNo hT.out hc.out.1 hst hg)
        replace hg := Lib.hid hg
        clear hst h5
        go_wp2_with fail
        refine hget.out.mono ?_
        rintro x w5 ⟨rfl, h5⟩
        have hget2 := Lib.hid (refNo2 (thingX q p) hc.out.1 hc.out.2 h5 hg.out)
        clear hget h5
        go_wp2_with fail
        refine hget2.out.mono ?_
        rintro x w6 ⟨rfl, h6⟩
        replace h6 := Lib.hid h6
        clear hget2
        go_wp2_with fail
        go_ret
        exact ⟨rfl, h6.out⟩
      | some y =>
        obtain ⟨v, m⟩ := y
        have hget := Lib.hid (twoGet hT.out hc.out.1 hst hg)
        have hvl : In v := getR_in hg
        replace hg := Lib.hid hg
        clear hst h5
        go_wp2_with fail
        refine hget.out.mono ?_
        rintro x w5 ⟨rfl, h5⟩
        have hget2 := Lib.hid (refGet2 (thingPR _ _ _ _) hc.out.1 hc.out.2 h5 hg.out)
        clear hget h5
        go_wp2_with fail
        refine hget2.out.mono ?_
        rintro x w6 ⟨rfl, h6⟩
        replace h6 := Lib.hid h6
        have hc2 : Hid ((putC c v).Ok ∧ (K.drop m).length ≤ 1000000) := Lib.hid ⟨hc.out.1.put hvl, by rw [List.length_drop]; have := hc.out.2; omega⟩
        clear hget2 hg
        generalize putC c v = c' at *
        generalize K.drop m = K' at *
        go_wp2_with fail
        go_roundw
        case rel => exact ⟨k + 1, c', K', by omega, by go_num, hc2, h6.out⟩
        case measure => simp [intOf]; omega
    · have hb : Hid (Below w.heap.size w wr) := Lib.hid hst.bel
      clear hst h5
      go_wp2_with fail
      go_ret
      exact ⟨rfl, hb.out⟩
theorem reads_long (s : ByteArray) (n : Int) (hs0 : s.size ≤ 140737488351232) (hs : 300 < s.size) (w : World) :
    Calls Tryd.prog 4 #[.string s, .int .i64 n] w fun e w' => e = .returned (.bool true) ∧ Below w.heap.size w w' := by
  have hb := Lib.hid (Below.refl w.heap.size w)
  go_enter Tryd.func4, Tryd.ntmps4
  go_wp2_with fail
  go_ret
  exact ⟨rfl, hb.out⟩
theorem reads_true (s : ByteArray) (n : Int) (hs : s.size ≤ 140737488351232) (hn0 : -9223372036854775808 ≤ n) (hn1 : n ≤ 9223372036854775807) (w : World) (hT : Tab w) :
    Calls Tryd.prog 4 #[.string s, .int .i64 n] w fun e w' => e = .returned (.bool true) ∧ Below w.heap.size w w' := by
  by_cases h : s.size ≤ 300
  · exact reads_any s n h hn0 hn1 w hT
  · exact reads_long s n hs (by omega) w
end Tm
end Go.Proofs.YtjoaccfjjihleaaDoor
