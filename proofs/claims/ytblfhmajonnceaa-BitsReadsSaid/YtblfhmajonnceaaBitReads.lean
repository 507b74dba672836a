/- BitsReads, walked: whatever is read of any text, bits by bits, is what the document says. -/
import Derived.Test.YtblfhmajonnceaaBitRefG
import Derived.Test.YtblfhmajonnceaaBitWrites
namespace Go.Proofs.Ytblfhmajonnceaa
open Go.RowKit Go.Sort
namespace Bit
open Dsk Ob Arg
set_option linter.unusedVariables false

/-- Are so many bits read, of so many that are left? -/
def rdOk (d : Nat) (n : Int) : Bool := decide (0 ≤ n ∧ n ≤ 64 ∧ n ≤ (d : Int))
def rdN (d : Nat) (n : Int) : Nat := if rdOk d n then n.toNat else 0
def rdV (s : List UInt8) (a e : Nat) (n : Int) : Nat := numOf (bitsAt s a (rdN (e - a) n))
theorem rdN_le (d : Nat) (n : Int) : rdN d n ≤ d := by
  unfold rdN rdOk
  split
  · rename_i h; have := of_decide_eq_true h; omega
  · omega
theorem bitsAt_take (s : List UInt8) (a d m : Nat) (h : m ≤ d) : (bitsAt s a d).take m = bitsAt s a m := by
  obtain ⟨r, rfl⟩ := Nat.exists_eq_add_of_le h
  rw [bitsAt_add, List.take_left' (bitsAt_length _ _ _)]
theorem bitsAt_drop (s : List UInt8) (a d m : Nat) (h : m ≤ d) : (bitsAt s a d).drop m = bitsAt s (a + m) (d - m) := by
  obtain ⟨r, rfl⟩ := Nat.exists_eq_add_of_le h
  rw [bitsAt_add, List.drop_left' (bitsAt_length _ _ _), Nat.add_sub_cancel_left]
/-- The document's reader beside the program's. -/
abbrev OwnRR (w0 : World) (q : Nat) (s : ByteArray) (a e p : Nat) (K : List Bool) (w : World) : Prop := Own (Tens (fun w S => IsR w S q s a e) (fun w S => IsRR w S p K)) w0 w
theorem thingRR (q : Nat) (s : ByteArray) (a e p : Nat) (K : List Bool) : Thing (Tens (fun w S => IsR w S q s a e) (fun w S => IsRR w S p K)) := Tens.ob (objR _ _ _ _) (objRR _ _)
theorem OwnRR.get {w0 w : World} {q p : Nat} {s : ByteArray} {a e a' x : Nat} {b : Bool} {K : List Bool} (h : OwnRR w0 q s a e p K w) (n : Int) (ha : a + rdN (e - a) n = a') (hx : rdV s.data.toList a e n = x) (hb : rdOk (e - a) n = b) :
    Calls Try.prog 15 #[.pointer (some ⟨q, 0, none⟩), .int .i64 n] w fun y w' => y = .returned (.tuple #[.int .u64 (x : Int), .bool b]) ∧ OwnRR w0 q s a' e p K w' := by
  obtain ⟨S, h1, h2⟩ := Own.left (objRR p K) h
  have hle : a ≤ e := h1.le
  subst ha; subst hx; subst hb
  unfold rdV rdN
  by_cases hk : rdOk (e - a) n = true
  · have hk' := of_decide_eq_true hk
    obtain ⟨m, rfl⟩ := Int.eq_ofNat_of_zero_le hk'.1
    rw [if_pos hk, hk]
    exact (Bit.get_ok S q s a e m w h1 (by omega) (by omega)).mono fun _ _ ⟨he, hs⟩ => ⟨he, h2 _ _ hs⟩
  · have hk' : ¬ (0 ≤ n ∧ n ≤ 64 ∧ n ≤ ((e - a : Nat) : Int)) := fun h => hk (decide_eq_true h)
    rw [if_neg hk, eq_false_of_ne_true hk]
    exact (Bit.get_no S q s a e n w h1 (by omega)).mono fun _ _ ⟨he, hs⟩ => ⟨he, h2 _ _ hs⟩
theorem OwnRR.refget {w0 w : World} {q p : Nat} {s : ByteArray} {a a0 e e0 x : Nat} {b : Bool} {K K' : List Bool} (h : OwnRR w0 q s a e p K w) (n : Int) (hK : K = bitsAt s.data.toList a0 (e0 - a0)) (hx : rdV s.data.toList a0 e0 n = x) (hb : rdOk (e0 - a0) n = b) (hK' : K' = bitsAt s.data.toList (a0 + rdN (e0 - a0) n) (e0 - (a0 + rdN (e0 - a0) n))) :
    Calls Try.prog 16 #[.pointer (some ⟨p, 0, none⟩), .int .i64 n] w fun y w' => y = .returned (.tuple #[.int .u64 (x : Int), .bool b]) ∧ OwnRR w0 q s a e p K' w' := by
  obtain ⟨S, h1, h2⟩ := Own.right (objR q s a e) h
  have hlen : K.length = e0 - a0 := by rw [hK, bitsAt_length]
  have hdrop : K' = K.drop (rdN (e0 - a0) n) := by
    rw [hK', hK, bitsAt_drop _ _ _ _ (rdN_le _ _)]
    congr 1; omega
  subst hx; subst hb
  rw [hdrop]
  have htk : numOf (K.take (rdN (e0 - a0) n)) = rdV s.data.toList a0 e0 n := by
    unfold rdV
    rw [hK, bitsAt_take _ _ _ _ (rdN_le _ _)]
  rw [← htk]
  clear htk hdrop hK'
  unfold rdN
  by_cases hk : rdOk (e0 - a0) n = true
  · have hk' := of_decide_eq_true hk
    obtain ⟨m, rfl⟩ := Int.eq_ofNat_of_zero_le hk'.1
    rw [if_pos hk, hk]
    exact (refGet_ok S p K m w h1 (by omega) (by omega)).mono fun _ _ ⟨he, hs⟩ => ⟨he, h2 _ _ hs⟩
  · have hk' : ¬ (0 ≤ n ∧ n ≤ 64 ∧ n ≤ ((e0 - a0 : Nat) : Int)) := fun h => hk (decide_eq_true h)
    rw [if_neg hk, eq_false_of_ne_true hk]
    refine (refGet_no S p K n w h1 (by omega)).mono ?_
    rintro _ _ ⟨rfl, rfl⟩
    exact ⟨rfl, h⟩
theorem OwnRR.left {w0 w : World} {q p : Nat} {s : ByteArray} {a e m : Nat} {K : List Bool} (h : OwnRR w0 q s a e p K w) (hm : e - a = m) (d : Nat) (os : Array Go.Obj) :
    Calls Try.prog 17 #[.pointer (some ⟨q, 0, none⟩)] (grow (redrawn w d) os) fun y w' => y = .returned (.int .i64 (m : Int)) ∧ Below (grow (redrawn w d) os).heap.size (grow (redrawn w d) os) w' := by
  subst hm
  obtain ⟨S, h1, _⟩ := (Own.calm (thingRR q s a e p K) h d os).dropr.get
  refine (left_any S q s a e _ h1).mono ?_
  rintro x w' ⟨rfl, n, rfl⟩
  exact ⟨rfl, (upon_drewN (fun _ => False) _ n).below (Nat.le_refl _) fun _ f => f.elim⟩
/-- What is read of the document's reader without a call. -/
theorem OwnRR.len {w0 w : World} {q p : Nat} {s : ByteArray} {a e : Nat} {K : List Bool} (h : OwnRR w0 q s a e p K w) : ∃ A c, w.cell? ⟨p, 0, none⟩ = some (.slice A K.length c) := by
  obtain ⟨S, ⟨v, hr⟩, _⟩ := h.dropl.get
  have k0 : w.cell? ⟨p, 0, none⟩ = some v := by rw [Lib.cell_of_heap hr.cell]; rfl
  rcases hr.view with ⟨h1, h2⟩ | ⟨g, off, cap, h1, _⟩
  · subst h1; subst h2; exact ⟨_, _, k0⟩
  · subst h1; exact ⟨_, _, k0⟩

set_option maxRecDepth 100000 in
set_option maxHeartbeats 3200000 in
theorem reads_any (s : ByteArray) (n : Int) (zs : List Int) (A : Option Addr) (c : Nat) (hs : s.size ≤ 2000) (hn0 : -9223372036854775808 ≤ n) (hn1 : n ≤ 9223372036854775807) (hmax : zs.length ≤ maxLen) (w : World) (hp : NumsAt .i64 zs A w) :
    Calls Try.prog 4 #[.string s, .int .i64 n, .slice A zs.length c] w fun e w' => e = .returned (.bool true) ∧ Below w.heap.size w w' := by
  replace hmax : zs.length ≤ 9223372036854775807 := by unfold maxLen at hmax; omega
  replace hp := Lib.hid hp
  go_enter Try.func4, Try.ntmps4
  go_wp2_with fail
  refine (newReader_any s n (by omega) ⟨hn0, hn1⟩ w).mono ?_
  intro x w1 hx
  obtain ⟨q, rfl, h1⟩ := RMade.own (Below.refl _ w) hx
  clear hx
  replace h1 := Lib.hid h1
  go_wp2_with fail
  refine (refNewReader_any s n (by omega) hn0 hn1 w1).mono ?_
  rintro x w2 ⟨p, rfl, h2, -⟩
  have h3 : Hid (OwnRR w q s 0 (ends s n) p (bitsAt s.data.toList 0 (ends s n - 0)) w2) := Lib.hid (by
    obtain ⟨⟨T, hT, hTw⟩, hbel⟩ := h2
    exact Own.new (objR _ _ _ _) h1.out (T := T) (IsRR.of_filled hT) hTw (Upon.of_below hbel _))
  clear h1 h2
  generalize ends s n = E at *
  go_wp2_with fail
  go_loopw [9] (fun i wr => ∃ k a : Nat, k ≤ zs.length ∧ k ≤ 100 ∧ a ≤ E ∧ i = .int .i64 k ∧ OwnRR w q s a E p (bitsAt s.data.toList a (E - a)) wr) (fun i _ => zs.length - (intOf i).toNat)
  case atStart => exact ⟨0, 0, Nat.zero_le _, Nat.zero_le _, Nat.zero_le _, rfl, h3.out⟩
  case round =>
    obtain ⟨k, a, hk, hk2, ha, rfl, hst⟩ := hrel
    by_cases hlt : k < zs.length ∧ k < 100
    · obtain ⟨hlt, hlt2⟩ := hlt
      obtain ⟨b, off, rfl, hbw, hall⟩ := hp.out (by omega)
      obtain ⟨cw0, w0⟩ := hall k hlt
      have c0 := (hst.bel.cell (p := ⟨b, off + k, none⟩) hbw).trans cw0
      have hN : -9223372036854775808 ≤ zs[k] ∧ zs[k] ≤ 9223372036854775807 := wf_i64 w0
      generalize zs[k] = N at *
      obtain ⟨X, hX⟩ : ∃ X, rdV s.data.toList a E N = X := ⟨_, rfl⟩
      obtain ⟨B, hB⟩ : ∃ B, rdOk (E - a) N = B := ⟨_, rfl⟩
      obtain ⟨a', ha'⟩ : ∃ a', a + rdN (E - a) N = a' := ⟨_, rfl⟩
      have hale : a' ≤ E := by have := rdN_le (E - a) N; omega
      obtain ⟨K', hK'⟩ : ∃ K', K' = bitsAt s.data.toList a' (E - a') := ⟨_, rfl⟩
      have hget := Lib.hid (OwnRR.get hst N ha' hX hB)
      have hrg := Lib.hid (fun w3 (h : OwnRR w q s a' E p (bitsAt s.data.toList a (E - a)) w3) => OwnRR.refget (K' := K') h N rfl hX hB (by rw [ha']; exact hK'))
      have hKl : K'.length = E - a' := by rw [hK', bitsAt_length]
      replace hK' := Lib.hid hK'
      replace hX := Lib.hid hX
      replace hB := Lib.hid hB
      replace ha' := Lib.hid ha'
      replace cw0 := Lib.hid cw0
      clear hall w0 hst h3
      go_wp2_with fail
      refine hget.out.mono ?_
      rintro x w3 ⟨rfl, h3⟩
      have c0 := (h3.bel.cell (p := ⟨b, off + k, none⟩) hbw).trans cw0.out
      replace h3 := Lib.hid h3
      clear hget
      go_wp2_with fail
      refine (hrg.out _ h3.out).mono ?_
      rintro x w4 ⟨rfl, h4⟩
      replace h4 := Lib.hid h4
      clear hrg h3 c0
      go_wp2_with fail
      have t1 := Lib.hid (fun d os => OwnRR.left h4.out hKl.symm d os)
      obtain ⟨A2, c2, k0⟩ := h4.out.len
      have k0' := fun d os => cell_regrown k0 d os
      replace hKl := Lib.hid hKl
      clear k0
      refine wp_region_quiet_below (by kernel_rfl) (by kernel_rfl) ?_
      repeat (go_big_quiet_step (first
        | exact Calls.regrown_of (t1.out _ _)))
      refine wpQuiet_nil ?_
      intro _ hw'
      obtain ⟨⟨dq, osq⟩, hw''⟩ := hw'
      subst hw''
      have h5 := Lib.hid (Own.calm (thingRR _ _ _ _ _ _) h4.out dq osq)
      clear t1 k0' h4
      generalize grow (redrawn w4 dq) osq = w5 at *
      go_wp2_with fail
      go_roundw
      case rel => exact ⟨k + 1, a', by omega, by omega, hale, by go_num, by rw [← hK'.out]; exact h5.out⟩
      case measure => simp [intOf]; omega
    · have hcond : decide (k < zs.length) = false ∨ (decide (k < zs.length) = true ∧ decide ((k : Int) < 100) = false) := by
        by_cases h : k < zs.length
        · right; simp; omega
        · left; simp; omega
      obtain ⟨K', hK'⟩ : ∃ K', K' = bitsAt s.data.toList a (E - a) := ⟨_, rfl⟩
      have hKl : E - a = K'.length := by rw [hK', bitsAt_length]
      rw [← hK'] at hst
      clear hK'
      have t1 := Lib.hid (fun d os => OwnRR.left hst hKl d os)
      obtain ⟨A2, c2, k0⟩ := hst.len
      have k0' := fun d os => cell_regrown k0 d os
      have hb := Lib.hid (fun d os => (Own.calm (thingRR _ _ _ _ _ _) hst d os).bel)
      clear k0 hst h3 hlt hKl
      rcases hcond with hc1 | ⟨hc1, hc2⟩
      all_goals
        go_wp2_with fail
        refine wp_region_quiet_below (by kernel_rfl) (by kernel_rfl) ?_
        repeat (go_big_quiet_step (first
          | exact Calls.regrown_of (t1.out _ _)))
        refine wpQuiet_nil ?_
        intro _ hw'
        obtain ⟨⟨dq, osq⟩, hw''⟩ := hw'
        subst hw''
        go_wp2_with fail
        go_ret
        exact ⟨rfl, hb.out _ _⟩
theorem reads_long (s : ByteArray) (n : Int) (v : Value) (hs0 : s.size ≤ 140737488351232) (hs : 2000 < s.size) (w : World) :
    Calls Try.prog 4 #[.string s, .int .i64 n, v] w fun e w' => e = .returned (.bool true) ∧ Below w.heap.size w w' := by
  have hb := Lib.hid (Below.refl w.heap.size w)
  go_enter Try.func4, Try.ntmps4
  go_wp2_with fail
  go_ret
  exact ⟨rfl, hb.out⟩
theorem reads_true (s : ByteArray) (n : Int) (v : Value) (hs : s.size ≤ 140737488351232) (hn0 : -9223372036854775808 ≤ n) (hn1 : n ≤ 9223372036854775807) (w : World) (hv : IsNums .i64 v w) :
    Calls Try.prog 4 #[.string s, .int .i64 n, v] w fun e w' => e = .returned (.bool true) ∧ Below w.heap.size w w' := by
  by_cases h : s.size ≤ 2000
  · obtain ⟨zs, A, c, rfl, hm, hp⟩ := hv
    exact reads_any s n zs A c h hn0 hn1 hm w hp
  · exact reads_long s n v hs (by omega) w
theorem reads_pick (w : World) (s : ByteArray) (n : Int) (v : Value) (hs : s.size ≤ 140737488351232) (hn0 : -9223372036854775808 ≤ n) (hn1 : n ≤ 9223372036854775807) (hv : IsNums .i64 v w) :
    Calls Try.prog 4 #[.string s, .int .i64 n, v] w fun e w' => e = .returned (.bool true) ∧ Below w.heap.size w w' :=
  reads_true s n v hs hn0 hn1 w hv
theorem open_ints3 {H : Type} {enc : TypeId × Value → H} {W : World} {base : Nat} {v : Value} {d : DataW H} {p : List MemPlace} (hv : Value.okWide Try.prog W .any base 36 v)
    (h : DataW.Trod enc Try.prog W 0 (fun _ => true) true 36 v d p) : IsNums .i64 v W :=
  open_nums Try.underlying36 Try.underlying3 (by kernel_rfl) hv h
end Bit
end Go.Proofs.Ytblfhmajonnceaa
