/- Parts, put together: MtAsk, MtGet, MtProg. -/
import Derived.Test.YtklgdllllboipaaPLb2
import Derived.Test.YtklgdllllboipaaPMt1

/- The program's matchers (layer 11): what a kind asks (asked and its four functions), checkOne, Check. -/
section
set_option maxRecDepth 100000
namespace Go.Proofs.Ytklgdllllboipaa
open Go.RowKit Go.Sort
namespace Mt
open Bit Dsk Ob Dig Lb
set_option linter.unusedVariables false

/-- The block that a matcher is laid in. -/
abbrev mBlk (m : M) : Go.Obj := .cells #[.int .i64 m.1, .string m.2.1, .string m.2.2] 41 (0, 0)
/-- What 'asked' answers: the function, or none. -/
def AskF (k : Int) (b : Nat) : Value :=
  if k = 1 then .func (.func 55) #[] #[.pointer (some ⟨b, 0, none⟩)] else if k = 2 then .func (.func 56) #[] #[.pointer (some ⟨b, 0, none⟩)] else
  if k = 3 then .func (.func 57) #[] #[.pointer (some ⟨b, 0, none⟩)] else if k = 4 then .func (.func 59) #[] #[] else Value.nilFunc
set_option maxHeartbeats 1600000 in
theorem asked_any (w : World) (m : M) : Calls Try.prog 43 #[mv m] w fun e w' => e = .returned (AskF m.1 w.heap.size) ∧ w' = w.alloc (mBlk m) := by
  obtain ⟨k, n, v⟩ := m
  unfold mv mBlk
  simp only
  by_cases h1 : k = 1
  · subst h1
    have hR : Hid (Value.func (.func 55) #[] #[.pointer (some ⟨w.heap.size, 0, none⟩)] = AskF 1 w.heap.size) := Lib.hid rfl
    go_enter Try.func43, Try.ntmps43
    go_wp2_with fail
    go_ret
    exact ⟨congrArg Ending.returned hR.out, rfl⟩
  have e1 : (k == 1) = false := by rw [beq_eq_false_iff_ne]; exact h1
  by_cases h2 : k = 2
  · subst h2
    have hR : Hid (Value.func (.func 56) #[] #[.pointer (some ⟨w.heap.size, 0, none⟩)] = AskF 2 w.heap.size) := Lib.hid rfl
    clear h1 e1
    go_enter Try.func43, Try.ntmps43
    go_wp2_with fail
    go_ret
    exact ⟨congrArg Ending.returned hR.out, rfl⟩
  have e2 : (k == 2) = false := by rw [beq_eq_false_iff_ne]; exact h2
  by_cases h3 : k = 3
  · subst h3
    have hR : Hid (Value.func (.func 57) #[] #[.pointer (some ⟨w.heap.size, 0, none⟩)] = AskF 3 w.heap.size) := Lib.hid rfl
    clear h1 e1 h2 e2
    go_enter Try.func43, Try.ntmps43
    go_wp2_with fail
    go_ret
    exact ⟨congrArg Ending.returned hR.out, rfl⟩
  have e3 : (k == 3) = false := by rw [beq_eq_false_iff_ne]; exact h3
  by_cases h4 : k = 4
  · subst h4
    have hR : Hid (Value.func (.func 59) #[] #[] = AskF 4 w.heap.size) := Lib.hid rfl
    clear h1 e1 h2 e2 h3 e3
    go_enter Try.func43, Try.ntmps43
    go_wp2_with fail
    go_ret
    exact ⟨congrArg Ending.returned hR.out, rfl⟩
  have e4 : (k == 4) = false := by rw [beq_eq_false_iff_ne]; exact h4
  have hR : Hid (Value.nilFunc = AskF k w.heap.size) := Lib.hid (by unfold AskF; rw [if_neg h1, if_neg h2, if_neg h3, if_neg h4])
  clear h1 h2 h3 h4
  go_enter Try.func43, Try.ntmps43
  go_wp2_with fail
  go_ret
  exact ⟨congrArg Ending.returned hR.out, rfl⟩
theorem ask_1 (w : World) (b : Nat) (v g : ByteArray) (hc : w.cell? ⟨b, 2, none⟩ = some (.string v)) :
    Calls Try.prog 55 #[.string g, .pointer (some ⟨b, 0, none⟩)] w fun e w' => e = .returned (.bool (decide (g = v))) ∧ New0 w w' := by
  have hR : Hid ((g.toList == v.toList) = decide (g = v)) := Lib.hid (Lb.toList_beq _ _)
  go_enter Try.func55, Try.ntmps55
  go_wp2_with fail
  go_ret
  exact ⟨Lb.ret_b hR.out, Upon.refl _ _⟩
theorem ask_2 (w : World) (b : Nat) (v g : ByteArray) (hc : w.cell? ⟨b, 2, none⟩ = some (.string v)) :
    Calls Try.prog 56 #[.string g, .pointer (some ⟨b, 0, none⟩)] w fun e w' => e = .returned (.bool (!decide (g = v))) ∧ New0 w w' := by
  have hR : Hid ((!(g.toList == v.toList)) = !decide (g = v)) := Lib.hid (by rw [Lb.toList_beq])
  go_enter Try.func56, Try.ntmps56
  go_wp2_with fail
  go_ret
  exact ⟨Lb.ret_b hR.out, Upon.refl _ _⟩
theorem ask_4 (w : World) (g : ByteArray) :
    Calls Try.prog 59 #[.string g] w fun e w' => e = .returned (.bool (!decide (g.size = 0))) ∧ New0 w w' := by
  have hR : Hid ((!g.toList.isEmpty) = !decide (g.size = 0)) := Lib.hid (by rw [emp_is])
  go_enter Try.func59, Try.ntmps59
  go_wp2_with fail
  go_ret
  exact ⟨Lb.ret_b hR.out, Upon.refl _ _⟩
set_option maxHeartbeats 1600000 in
theorem prefix_any (s p : ByteArray) (w : World) :
    Calls Try.prog 58 #[.string s, .string p] w fun e w' => e = .returned (.bool (pre p s)) ∧ New0 w w' := by
  by_cases hs : p.size ≤ s.size
  · have hR : Hid (((s.extract 0 p.size).toList == p.toList) = pre p s) := Lib.hid (by rw [Lb.toList_beq, pre, decide_eq_true hs, Bool.true_and])
    have d1 : decide ((p.size : Int) ≤ (s.size : Int)) = true := decide_eq_true (by omega)
    have d1' : decide (p.size ≤ s.size) = true := decide_eq_true hs
    go_enter Try.func58, Try.ntmps58
    go_wp2_with go_in
    go_ret
    exact ⟨Lb.ret_b hR.out, Upon.refl _ _⟩
  · have hR : Hid (false = pre p s) := Lib.hid (by rw [pre, decide_eq_false hs, Bool.false_and])
    have d1 : decide ((p.size : Int) ≤ (s.size : Int)) = false := decide_eq_false (by omega)
    have d1' : decide (p.size ≤ s.size) = false := decide_eq_false hs
    go_enter Try.func58, Try.ntmps58
    go_wp2_with go_in
    go_ret
    exact ⟨Lb.ret_b hR.out, Upon.refl _ _⟩
theorem ask_3 (w : World) (b : Nat) (v g : ByteArray) (hc : w.cell? ⟨b, 2, none⟩ = some (.string v)) :
    Calls Try.prog 57 #[.string g, .pointer (some ⟨b, 0, none⟩)] w fun e w' => e = .returned (.bool (pre v g)) ∧ New0 w w' := by
  have HP := Lib.hid (prefix_any g v)
  go_enter Try.func57, Try.ntmps57
  go_wp2_with fail
  refine (HP.out _).mono ?_
  rintro e w2 ⟨rfl, hu⟩
  replace hu := Lib.hid hu
  clear HP
  go_wp2_with fail
  go_ret
  exact ⟨rfl, hu.out⟩

/-! ### what is wrong with one -/
theorem askF_kind {k : Int} (b : Nat) (h : k < 1 ∨ 4 < k) : AskF k b = Value.nilFunc := by
  unfold AskF; rw [if_neg (by omega), if_neg (by omega), if_neg (by omega), if_neg (by omega)]
theorem askF_some {k : Int} (b : Nat) (h : ¬ (k < 1 ∨ 4 < k)) : ∃ f c, AskF k b = .func (.func f) #[] c := by
  have : k = 1 ∨ k = 2 ∨ k = 3 ∨ k = 4 := by omega
  rcases this with rfl | rfl | rfl | rfl
  · exact ⟨_, _, rfl⟩
  · exact ⟨_, _, rfl⟩
  · exact ⟨_, _, rfl⟩
  · exact ⟨_, _, rfl⟩
theorem lb_ok {n v : ByteArray} (h1 : Lb.nm n = true) (h2 : Lb.vl v = true) : Lb.Ok [(n, v)] := ⟨by simp, by simp, ⟨fun p hp => by rw [List.mem_singleton.1 hp]; exact ⟨h1, h2⟩, List.pairwise_singleton _ _⟩⟩
theorem lb_name {n v : ByteArray} (h1 : Lb.nm n = false) : ¬ Lb.Ok [(n, v)] := fun h => by
  have := (h.at 0 (by simp)).1
  simp at this
  rw [h1] at this; cases this
theorem lb_value {n v : ByteArray} (h1 : Lb.vl v = false) : ¬ Lb.Ok [(n, v)] := fun h => by
  have := (h.at 0 (by simp)).2
  simp at this
  rw [h1] at this; cases this
theorem lb_dash : Lb.vl ⟨#[45]⟩ = true := by decide
theorem asked_no (w : World) {k : Int} (n v : ByteArray) (h : k < 1 ∨ 4 < k) : Calls Try.prog 43 #[.agg #[.int .i64 k, .string n, .string v]] w fun e w' => e = .returned Value.nilFunc ∧ w' = w.alloc (.cells #[.int .i64 k, .string n, .string v] 41 (0, 0)) := by
  have := asked_any w (k, n, v)
  rw [askF_kind _ h] at this
  exact this
theorem asked_yes (w : World) {k : Int} (n v : ByteArray) (h : ¬ (k < 1 ∨ 4 < k)) : Calls Try.prog 43 #[.agg #[.int .i64 k, .string n, .string v]] w fun e w' => ∃ f c, e = .returned (.func (.func f) #[] c) ∧ w' = w.alloc (.cells #[.int .i64 k, .string n, .string v] 41 (0, 0)) := by
  obtain ⟨f, c, hf⟩ := askF_some w.heap.size h
  exact (asked_any w (k, n, v)).mono fun e w' ⟨h1, h2⟩ => ⟨f, c, by rw [h1, ← hf], h2⟩
theorem run_noF (W : World) : Sem.run Try.prog (binOp BinOp.eql 76 Value.nilFunc Value.nilFunc) W = .ok (.bool true) W := by kernel_rfl
theorem run_isF (W : World) (f : Fn) (c : Array Value) : Sem.run Try.prog (binOp BinOp.eql 76 (.func f #[] c) Value.nilFunc) W = .ok (.bool false) W := by kernel_rfl
/-- label.Check of one pair. -/
theorem lbcheck_yes {n v : ByteArray} (h1 : Lb.nm n = true) (h2 : Lb.vl v = true) (hn : n.size ≤ 9223372036854775807) (hv : v.size ≤ 9223372036854775807) (w : World) {g : Nat} (h : w.heap[g]? = some (.cells #[.string n, .string v] 28 (0, 0))) :
    Calls Try.prog 54 #[.slice (some ⟨g, 0, none⟩) 1 1] w fun e w' => e = .returned (.int .i64 0) ∧ New0 w w' :=
  Lb.check_ok w _ _ _ (Lb.view_one h) (fun p hp => by rw [List.mem_singleton.1 hp]; exact ⟨hn, hv⟩) (lb_ok h1 h2)
theorem lbcheck_not {n v : ByteArray} (h1 : Lb.nm n = false ∨ Lb.vl v = false) (hn : n.size ≤ 9223372036854775807) (hv : v.size ≤ 9223372036854775807) (w : World) {g : Nat} (h : w.heap[g]? = some (.cells #[.string n, .string v] 28 (0, 0))) :
    Calls Try.prog 54 #[.slice (some ⟨g, 0, none⟩) 1 1] w fun e w' => e = .returned (.int .i64 16) ∧ New0 w w' :=
  Lb.check_no w _ _ _ (Lb.view_one h) (fun p hp => by rw [List.mem_singleton.1 hp]; exact ⟨hn, hv⟩) (h1.elim lb_name lb_value)
theorem new4 (w : World) (a b c d : Go.Obj) : ((((w.alloc a).alloc b).alloc c).alloc d).heap[w.heap.size + 1 + 1 + 1]? = some d := by
  have := cell_new (((w.alloc a).alloc b).alloc c) d
  simpa using this
theorem new4u (w : World) (a b c d : Go.Obj) : New0 w ((((w.alloc a).alloc b).alloc c).alloc d) := ((((Upon.refl _ w).alloc a).alloc b).alloc c).alloc d
set_option maxHeartbeats 3200000 in
theorem checkone_any (w : World) (m : M) (hb : Bnd1 m) :
    Calls Try.prog 41 #[mv m] w fun e w' => e = .returned (.int .i64 (right m : Int)) ∧ New0 w w' := by
  obtain ⟨k, n, v⟩ := m
  obtain ⟨-, -, hn, hv⟩ := hb
  simp only at hn hv
  unfold mv
  have hq0 := fun W => run_noF W
  have hq1 := fun W f c => run_isF W f c
  have hU := Lib.hid ((Upon.refl (fun _ => False) w).alloc (.cells #[.int .i64 k, .string n, .string v] 41 (0, 0)))
  have hU2 := Lib.hid (hU.out.alloc (.cells #[.int .i64 k, .string n, .string v] 41 (0, 0)))
  by_cases ck : k < 1 ∨ 4 < k
  · have hR : Hid ((5 : Int) = (right (k, n, v) : Int)) := Lib.hid (by rw [right_kind ck]; rfl)
    have HA := Lib.hid (fun w => asked_no w n v ck)
    clear ck
    go_enter Try.func41, Try.ntmps41
    go_wp2_with fail
    refine (HA.out _).mono ?_
    rintro e w2 ⟨rfl, rfl⟩
    clear HA
    go_wp2_with fail
    go_ret
    exact ⟨Lb.ret_i hR.out, hU2.out⟩
  have HA := Lib.hid (fun w => asked_yes w n v ck)
  by_cases h0 : v.size = 0
  · have d0 := emp_yes h0
    cases hnm : Lb.nm n with
    | true =>
      have hR : Hid ((0 : Int) = (right (k, n, v) : Int)) := Lib.hid (by rw [right_emp ck hnm h0]; rfl)
      have hL := Lib.hid (fun w g h => lbcheck_yes hnm lb_dash hn (by decide) w (g := g) h)
      clear ck hnm
      go_enter Try.func41, Try.ntmps41
      go_wp2_with fail
      refine (HA.out _).mono ?_
      rintro e w2 ⟨f, c, rfl, rfl⟩
      clear HA
      go_wp2_with fail
      all_goals
        refine (hL.out _ _ (new4 w _ _ _ _)).mono ?_
        rintro e w3 ⟨rfl, hu3⟩
        have hu4 := Lib.hid ((new4u w _ _ _ _).trans hu3)
        clear hL hu3
        go_wp2_with fail
        go_ret
        exact ⟨Lb.ret_i hR.out, hu4.out⟩
    | false =>
      have hR : Hid ((3 : Int) = (right (k, n, v) : Int)) := Lib.hid (by rw [right_field ck (.inl hnm)]; rfl)
      have hL := Lib.hid (fun w g h => lbcheck_not (v := ⟨#[45]⟩) (.inl hnm) hn (by decide) w (g := g) h)
      clear ck hnm
      go_enter Try.func41, Try.ntmps41
      go_wp2_with fail
      refine (HA.out _).mono ?_
      rintro e w2 ⟨f, c, rfl, rfl⟩
      clear HA
      go_wp2_with fail
      all_goals
        refine (hL.out _ _ (new4 w _ _ _ _)).mono ?_
        rintro e w3 ⟨rfl, hu3⟩
        have hu4 := Lib.hid ((new4u w _ _ _ _).trans hu3)
        clear hL hu3
        go_wp2_with fail
        go_ret
        exact ⟨Lb.ret_i hR.out, hu4.out⟩
  have d0 := emp_no h0
  by_cases h4 : k = 4
  · have hR : Hid ((3 : Int) = (right (k, n, v) : Int)) := Lib.hid (by rw [right_field ck (.inr ⟨h0, .inr h4⟩)]; rfl)
    subst h4
    clear ck
    go_enter Try.func41, Try.ntmps41
    go_wp2_with fail
    refine (HA.out _).mono ?_
    rintro e w2 ⟨f, c, rfl, rfl⟩
    clear HA
    go_wp2_with fail
    go_ret
    exact ⟨Lb.ret_i hR.out, hU2.out⟩
  have e4 : (k == 4) = false := by rw [beq_eq_false_iff_ne]; exact h4
  by_cases hg : Lb.nm n = true ∧ Lb.vl v = true
  · have hR : Hid ((0 : Int) = (right (k, n, v) : Int)) := Lib.hid (by rw [right_val ck hg.1 hg.2 h4]; rfl)
    have hL := Lib.hid (fun w g h => lbcheck_yes hg.1 hg.2 hn hv w (g := g) h)
    clear ck hg h4
    go_enter Try.func41, Try.ntmps41
    go_wp2_with fail
    refine (HA.out _).mono ?_
    rintro e w2 ⟨f, c, rfl, rfl⟩
    clear HA
    go_wp2_with fail
    refine (hL.out _ _ (new4 w _ _ _ _)).mono ?_
    rintro e w3 ⟨rfl, hu3⟩
    have hu4 := Lib.hid ((new4u w _ _ _ _).trans hu3)
    clear hL hu3
    go_wp2_with fail
    go_ret
    exact ⟨Lb.ret_i hR.out, hu4.out⟩
  · have hg' : Lb.nm n = false ∨ Lb.vl v = false := by
      cases h1 : Lb.nm n with
      | false => exact .inl rfl
      | true =>
        cases h2 : Lb.vl v with
        | false => exact .inr rfl
        | true => exact absurd ⟨h1, h2⟩ hg
    have hR : Hid ((3 : Int) = (right (k, n, v) : Int)) := Lib.hid (by rw [right_field ck (hg'.imp id fun h => ⟨h0, .inl h⟩)]; rfl)
    have hL := Lib.hid (fun w g h => lbcheck_not hg' hn hv w (g := g) h)
    clear ck hg hg' h4
    go_enter Try.func41, Try.ntmps41
    go_wp2_with fail
    refine (HA.out _).mono ?_
    rintro e w2 ⟨f, c, rfl, rfl⟩
    clear HA
    go_wp2_with fail
    refine (hL.out _ _ (new4 w _ _ _ _)).mono ?_
    rintro e w3 ⟨rfl, hu3⟩
    have hu4 := Lib.hid ((new4u w _ _ _ _).trans hu3)
    clear hL hu3
    go_wp2_with fail
    go_ret
    exact ⟨Lb.ret_i hR.out, hu4.out⟩
set_option maxHeartbeats 1600000 in
theorem check_any (w : World) (S : Nat → Prop) (v : Value) (l : List M) (hv : View w S v l) (hb : Bnd l) :
    Calls Try.prog 29 #[v] w fun e w' => e = .returned (.int .i64 (chk l : Int)) ∧ New0 w w' := by
  obtain ⟨A, c, rfl, -, -⟩ := Rw.View.shape hv
  replace hv := Lib.hid hv
  replace hb := Lib.hid hb
  by_cases h8 : 8 < l.length
  · have hR : Hid ((8 : Int) = (chk l : Int)) := Lib.hid (by rw [chk_long h8]; rfl)
    have d2 : (8 : Int) < (l.length : Int) := by omega
    go_enter Try.func29, Try.ntmps29
    go_wp2_with fail
    go_ret
    exact ⟨Lb.ret_i hR.out, Upon.refl _ _⟩
  have d2 : ¬ (8 : Int) < (l.length : Int) := by omega
  have hf : Hid (first l = chk l) := Lib.hid (chk_few h8).symm
  obtain ⟨q, hq⟩ : ∃ q, chk l = q := ⟨_, rfl⟩
  rw [hq] at hf ⊢
  clear hq
  go_enter Try.func29, Try.ntmps29
  go_wp2_with fail
  go_loopw [11] (fun ov wr => ∃ j : Nat, ov = .int .i64 (j : Int) ∧ j ≤ l.length ∧ Hid (first (l.drop j) = q) ∧ Hid (New0 w wr)) (fun ov _ => l.length - (intOf ov).toNat)
  case atStart => exact ⟨0, rfl, Nat.zero_le _, hf, Lib.hid (Upon.refl _ _)⟩
  case round =>
    clear hf
    obtain ⟨j, rfl, hj, hg, hu⟩ := hrel
    by_cases hlt : j < l.length
    · obtain ⟨b, off, rfl, -, -, hcells⟩ := View.cells hv.out (by omega)
      obtain ⟨x0, x1, x2⟩ := hcells j hlt
      have r0 := Lb.New0.cells hu.out x0
      have r1 := Lb.New0.cells hu.out x1
      have r2 := Lb.New0.cells hu.out x2
      have HR := Lib.hid (fun w => checkone_any w l[j] (hb.out _ (List.getElem_mem hlt)))
      have hbad := Lib.hid (fun h => (first_bad hlt h).symm.trans hg.out)
      have hgood := Lib.hid (fun h => (first_good hlt h).symm.trans hg.out)
      obtain ⟨m, hm⟩ : ∃ m, l[j] = m := ⟨_, rfl⟩
      rw [hm] at r0 r1 r2 HR hbad hgood
      clear hcells x0 x1 x2 hm hg
      obtain ⟨a, b', c'⟩ := m
      have hua := Lib.hid (hu.out.alloc (.cells #[.int .i64 a, .string b', .string c'] 41 (0, 0)))
      unfold mv at HR
      by_cases he : right (a, b', c') = 0
      · have hG := Lib.hid (hgood.out he)
        rw [he] at HR
        clear hbad hgood he
        go_wp2_with fail
        refine (HR.out _).mono ?_
        rintro e w2 ⟨rfl, hu2⟩
        have hu3 := Lib.hid (hua.out.trans hu2)
        clear HR hu hu2 hua r0 r1 r2
        go_wp2_with fail
        go_roundw
        case rel => exact ⟨j + 1, by go_num, hlt, hG, hu3⟩
        case measure => simp [intOf]; omega
      · have hG := Lib.hid (hbad.out he)
        obtain ⟨z, hz⟩ : ∃ z, right (a, b', c') = z := ⟨_, rfl⟩
        rw [hz] at HR hG he
        have d : ((z : Int) != 0) = true := by rw [bne_iff_ne]; omega
        have hE : Hid ((z : Int) = (q : Int)) := Lib.hid (by rw [hG.out])
        clear hbad hgood he hz hG
        go_wp2_with fail
        refine (HR.out _).mono ?_
        rintro e w2 ⟨rfl, hu2⟩
        have hu3 := Lib.hid (hua.out.trans hu2)
        clear HR hu hu2 hua r0 r1 r2
        go_wp2_with fail
        go_ret
        exact ⟨Lb.ret_i hE.out, hu3.out⟩
    · have hE : Hid ((0 : Int) = (q : Int)) := Lib.hid (by have := hg.out; rw [first_end hlt] at this; rw [← this]; rfl)
      clear hg hv hb
      go_wp2_with fail
      go_ret
      exact ⟨Lb.ret_i hE.out, hu.out⟩
end Mt
end Go.Proofs.Ytklgdllllboipaa
end

/- The program's matchers (layer 11): getOne, Get. -/
section
set_option maxRecDepth 100000
namespace Go.Proofs.Ytklgdllllboipaa
open Go.RowKit Go.Sort
namespace Mt
open Bit Dsk Ob Dig Lb
set_option linter.unusedVariables false

/-! ### a block of three cells -/
def Three (T : TypeId) (g : Nat) (a b c : Value) (w : World) : Prop := w.heap[g]? = some (.cells #[a, b, c] T (0, 0))
theorem Three.new {T : TypeId} {g : Nat} {a b c : Value} {w w' : World} (h : Three T g a b c w) (hu : New0 w w') : Three T g a b c w' :=
  (hu.block g (Array.getElem?_eq_some_iff.1 h).1 fun f => f).trans h
theorem Three.cells {T : TypeId} {g : Nat} {a b c : Value} {w : World} (h : Three T g a b c w) : w.cell? ⟨g, 0, none⟩ = some a ∧ w.cell? ⟨g, 1, none⟩ = some b ∧ w.cell? ⟨g, 2, none⟩ = some c :=
  ⟨by rw [Lib.cell_of_heap h]; rfl, by rw [Lib.cell_of_heap h]; rfl, by rw [Lib.cell_of_heap h]; rfl⟩
theorem Three.frozen {T : TypeId} {g : Nat} {a b c : Value} {w : World} (h : Three T g a b c w) (i : Nat) : w.frozen? ⟨g, i, none⟩ = false := by
  unfold Three at h
  simp [World.frozen?, h]
theorem Three.set0 {T : TypeId} {g : Nat} {a b c : Value} {w : World} (h : Three T g a b c w) (x : Value) : Three T g x b c (w.setCell ⟨g, 0, none⟩ x) := by unfold Three at *; simp [World.setCell, Array.getElem?_modify, h]
theorem Three.set1 {T : TypeId} {g : Nat} {a b c : Value} {w : World} (h : Three T g a b c w) (x : Value) : Three T g a x c (w.setCell ⟨g, 1, none⟩ x) := by unfold Three at *; simp [World.setCell, Array.getElem?_modify, h]
theorem Three.set2 {T : TypeId} {g : Nat} {a b c : Value} {w : World} (h : Three T g a b c w) (x : Value) : Three T g a b x (w.setCell ⟨g, 2, none⟩ x) := by unfold Three at *; simp [World.setCell, Array.getElem?_modify, h]
/-- What a walk that writes all three asks, and what is there then. -/
structure Roads (g : Nat) (a b c x y z : Value) (w : World) : Prop where
  c0 : w.cell? ⟨g, 0, none⟩ = some a
  f0 : w.frozen? ⟨g, 0, none⟩ = false
  c1 : (w.setCell ⟨g, 0, none⟩ x).cell? ⟨g, 1, none⟩ = some b
  f1 : (w.setCell ⟨g, 0, none⟩ x).frozen? ⟨g, 1, none⟩ = false
  c2 : ((w.setCell ⟨g, 0, none⟩ x).setCell ⟨g, 1, none⟩ y).cell? ⟨g, 2, none⟩ = some c
  f2 : ((w.setCell ⟨g, 0, none⟩ x).setCell ⟨g, 1, none⟩ y).frozen? ⟨g, 2, none⟩ = false
  e0 : (((w.setCell ⟨g, 0, none⟩ x).setCell ⟨g, 1, none⟩ y).setCell ⟨g, 2, none⟩ z).cell? ⟨g, 0, none⟩ = some x
  e1 : (((w.setCell ⟨g, 0, none⟩ x).setCell ⟨g, 1, none⟩ y).setCell ⟨g, 2, none⟩ z).cell? ⟨g, 1, none⟩ = some y
  e2 : (((w.setCell ⟨g, 0, none⟩ x).setCell ⟨g, 1, none⟩ y).setCell ⟨g, 2, none⟩ z).cell? ⟨g, 2, none⟩ = some z
theorem Three.roads {T : TypeId} {g : Nat} {a b c : Value} {w : World} (h : Three T g a b c w) (x y z : Value) : Roads g a b c x y z w :=
  have h1 := h.set0 x
  have h2 := h1.set1 y
  have h3 := h2.set2 z
  ⟨h.cells.1, h.frozen 0, h1.cells.2.1, h1.frozen 1, h2.cells.2.2, h2.frozen 2, h3.cells.1, h3.cells.2.1, h3.cells.2.2⟩
theorem upon_set3 {w0 w : World} {g : Nat} (h : New0 w0 w) (hg : w0.heap.size ≤ g) (x y z : Value) : New0 w0 (((w.setCell ⟨g, 0, none⟩ x).setCell ⟨g, 1, none⟩ y).setCell ⟨g, 2, none⟩ z) :=
  Upon.setCell (p := ⟨g, 2, none⟩) (Upon.setCell (p := ⟨g, 1, none⟩) (Upon.setCell (p := ⟨g, 0, none⟩) h (.inr hg) _) (.inr hg) _) (.inr hg) _

/-! ### one matcher -/
/-- What getOne answers. -/
def OneE (w : World) (s : ByteArray) (e : Ending) (w' : World) : Prop :=
  (∃ (m : M) (k x : Nat), e = .returned (.tuple #[mv m, .int .i64 (k : Int), .int .i64 (x : Int)]) ∧ Bnd1 m ∧ ((x ≠ 0 ∧ (one s.data.toList).2.2 = x) ∨ (x = 0 ∧ k ≤ s.size ∧ one s.data.toList = (m, s.data.toList.drop k, 0)))) ∧ New0 w w'
def m0 : M := (0, ⟨#[]⟩, ⟨#[]⟩)
theorem m0_bnd : Bnd1 m0 := ⟨by decide, by decide, by decide, by decide⟩
theorem OneE.no {w w' : World} {s : ByteArray} {x : Nat} {z : Int} (h : (one s.data.toList).2.2 = x) (hx : x ≠ 0) (hz : z = x) (hu : New0 w w') : OneE w s (.returned (.tuple #[.agg #[.int .i64 0, .string ⟨#[]⟩, .string ⟨#[]⟩], .int .i64 0, .int .i64 z])) w' := by
  subst hz
  exact ⟨⟨m0, 0, x, rfl, m0_bnd, .inl ⟨hx, h⟩⟩, hu⟩
/-! ### Get -/
/-- A row of matchers of the call's own. -/
def Own1 (w0 w : World) (u : Value) (l : List M) : Prop := Mine w u l ∧ (∀ g, u.ownBlock = some g → w0.heap.size ≤ g) ∧ New0 w0 w
theorem Own1.step {w0 w w' : World} {u : Value} {l : List M} (h : Own1 w0 w u l) (hu : New0 w w') : Own1 w0 w' u l := ⟨h.1.new hu, h.2.1, h.2.2.trans hu⟩
theorem Own1.app {w0 w w' : World} {u u' : Value} {l m : List M} (h : Own1 w0 w u l) (hown : Mine w' u' m) (hg : w.grownBy w' u.ownBlock) (hb : u'.ownBlock = u.ownBlock ∨ u'.ownBlock = some w.heap.size) : Own1 w0 w' u' m :=
  ⟨hown, fun g hk => by
    rw [hk] at hb
    rcases hb with hb | hb
    · exact h.2.1 g hb.symm
    · have : g = w.heap.size := by simpa using hb
      have := h.2.2.size
      omega, Rw.grown_new (v' := u') hg (fun g hk => h.2.1 g hk) w0 (Nat.le_refl _) h.2.2⟩
theorem view_twice (w : World) (o : Go.Obj) (k : Int) (a b : ByteArray) : View ((w.alloc o).alloc (.cells #[.int .i64 k, .string a, .string b] 41 (0, 0))) All (.slice (some ⟨w.heap.size + 1, 0, none⟩) 1 1) [(k, a, b)] := by
  have h := view_one (cell_new (w.alloc o) (.cells #[.int .i64 k, .string a, .string b] 41 (0, 0)))
  have e : (w.alloc o).heap.size = w.heap.size + 1 := by simp
  rw [e] at h
  exact h
theorem fits64 {s r : List UInt8} {n : Nat} (h : r = s.drop n) (hn : n ≤ s.length) : s.length - r.length = n := by rw [h, List.length_drop]; omega
/-- What Get's end is: what it hands back lies in new blocks. -/
def GetN (w : World) (sl : List UInt8) (e : Ending) (w' : World) : Prop := ∃ v, e = .returned (.tuple #[v, .int .i64 ((got sl).2.1 : Int), .int .i64 ((got sl).2.2 : Int)]) ∧ View w' (Lb.Nw w) v (got sl).1 ∧ New0 w w'
theorem GetN.no {w w' : World} {sl : List UInt8} {x : Nat} {z : Int} (h : got sl = ([], 0, x)) (hz : z = x) (hu : New0 w w') : GetN w sl (.returned (.tuple #[.slice none 0 0, .int .i64 0, .int .i64 z])) w' := by
  subst hz
  unfold GetN
  rw [h]
  exact ⟨_, rfl, Rw.View.noth _ _ _, hu⟩
theorem GetN.yes {w w' : World} {sl : List UInt8} {l : List M} {v : Value} {k : Nat} {z : Int} (h : got sl = (l, k, 0)) (hz : z = k) (hv : View w' (Lb.Nw w) v l) (hu : New0 w w') : GetN w sl (.returned (.tuple #[v, .int .i64 z, .int .i64 0])) w' := by
  subst hz
  unfold GetN
  rw [h]
  exact ⟨v, rfl, hv, hu⟩
end Mt
end Go.Proofs.Ytklgdllllboipaa
end

/- The program's matchers (layer 11): Is, Encode. -/
section
set_option maxRecDepth 100000
namespace Go.Proofs.Ytklgdllllboipaa
open Go.RowKit Go.Sort
namespace Mt
open Bit Dsk Ob Dig Lb
set_option linter.unusedVariables false

theorem go1 (args : Array Value) (W : World) : (callFunc 55 args).run Try.prog W = .ok (.enter 55 args) W := by kernel_rfl
theorem go2 (args : Array Value) (W : World) : (callFunc 56 args).run Try.prog W = .ok (.enter 56 args) W := by kernel_rfl
theorem go3 (args : Array Value) (W : World) : (callFunc 57 args).run Try.prog W = .ok (.enter 57 args) W := by kernel_rfl
theorem go4 (args : Array Value) (W : World) : (callFunc 59 args).run Try.prog W = .ok (.enter 59 args) W := by kernel_rfl
/-- A right matcher's question: the function that asks it. -/
theorem asked_good (w : World) {k : Int} (n v : ByteArray) (h : ¬ (k < 1 ∨ 4 < k)) : Calls Try.prog 43 #[.agg #[.int .i64 k, .string n, .string v]] w fun e w' => ∃ f c, e = .returned (.func (.func f) #[] c) ∧ w' = w.alloc (.cells #[.int .i64 k, .string n, .string v] 41 (0, 0)) ∧
    (∀ W g, W.cell? ⟨w.heap.size, 2, none⟩ = some (.string v) → Calls Try.prog f (#[.string g] ++ c) W fun e w' => e = .returned (.bool (holds (k, n, v) g)) ∧ New0 W w') ∧
    ∀ args W, (callFunc f args).run Try.prog W = .ok (.enter f args) W := by
  have : k = 1 ∨ k = 2 ∨ k = 3 ∨ k = 4 := by omega
  rcases this with rfl | rfl | rfl | rfl
  · exact (asked_any w ((1 : Int), n, v)).mono fun e w' ⟨h1, h2⟩ => ⟨_, _, h1, h2, fun W g hc => by rw [holds_1]; exact ask_1 W _ v g hc, go1⟩
  · exact (asked_any w ((2 : Int), n, v)).mono fun e w' ⟨h1, h2⟩ => ⟨_, _, h1, h2, fun W g hc => by rw [holds_2]; exact ask_2 W _ v g hc, go2⟩
  · exact (asked_any w ((3 : Int), n, v)).mono fun e w' ⟨h1, h2⟩ => ⟨_, _, h1, h2, fun W g hc => by rw [holds_3]; exact ask_3 W _ v g hc, go3⟩
  · exact (asked_any w ((4 : Int), n, v)).mono fun e w' ⟨h1, h2⟩ => ⟨_, _, h1, h2, fun W g hc => by rw [holds_4 (by decide) (by decide) (by decide)]; exact ask_4 W g, go4⟩
theorem new2 (w : World) (a b : Go.Obj) : ((w.alloc a).alloc b).heap[w.heap.size + 1]? = some b := by
  have := cell_new (w.alloc a) b
  simpa using this
set_option maxHeartbeats 3200000 in
theorem is_any (w : World) (S S' : Nat → Prop) (v lv : Value) (l : List M) (a : List Lb.Pr) (hv : View w S v l) (hb : Bnd l) (ha : Lb.View w S' lv a) :
    Calls Try.prog 31 #[v, lv] w fun e w' => e = .returned (.bool (is l a)) ∧ New0 w w' := by
  have HC := Lib.hid (check_any w S v l hv hb)
  have HG := Lib.hid (fun w' (hu : New0 w w') n => Lb.get_any w' S' lv a (Rw.View.new ha hu) n)
  obtain ⟨A, c, rfl, -, -⟩ := Rw.View.shape hv
  obtain ⟨A', c', rfl, -, -⟩ := Rw.View.shape ha
  replace hv := Lib.hid hv
  clear ha
  by_cases h0 : chk l = 0
  · have hall : Hid (all l a = is l a) := Lib.hid (is_all h0).symm
    have hri := Lib.hid (chk_zero.1 h0).2
    rw [h0] at HC
    obtain ⟨q, hq⟩ : ∃ q, is l a = q := ⟨_, rfl⟩
    rw [hq] at hall ⊢
    have hfew : l.length ≤ 8 := (chk_zero.1 h0).1
    clear hq h0 hb
    go_enter Try.func31, Try.ntmps31
    go_wp2_with fail
    refine HC.out.mono ?_
    rintro e w2 ⟨rfl, hu2⟩
    replace hu2 := Lib.hid hu2
    clear HC
    go_wp2_with fail
    go_loopw [13] (fun ov wr => ∃ j : Nat, ov = .int .i64 (j : Int) ∧ j ≤ l.length ∧ Hid (all (l.drop j) a = q) ∧ Hid (New0 w wr)) (fun ov _ => l.length - (intOf ov).toNat)
    case atStart => exact ⟨0, rfl, Nat.zero_le _, hall, hu2⟩
    case round =>
      clear hall hu2
      obtain ⟨j, rfl, hj, hg, hu⟩ := hrel
      by_cases hlt : j < l.length
      · obtain ⟨b, off, rfl, -, -, hcells⟩ := View.cells hv.out (by omega)
        obtain ⟨x0, x1, x2⟩ := hcells j hlt
        have r0 := Lb.New0.cells hu.out x0
        have r1 := Lb.New0.cells hu.out x1
        have r2 := Lb.New0.cells hu.out x2
        obtain ⟨hk1, hk2, -, -⟩ := right_zero.1 (hri.out _ (List.getElem_mem hlt))
        have hyes := Lib.hid (fun h => (all_yes hlt h).symm.trans hg.out)
        have hnot := Lib.hid (fun h => (all_not (a := a) hlt h).symm.trans hg.out)
        obtain ⟨m, hm⟩ : ∃ m, l[j] = m := ⟨_, rfl⟩
        rw [hm] at r0 r1 r2 hyes hnot hk1 hk2
        clear hcells x0 x1 x2 hm hg
        obtain ⟨k, n, z⟩ := m
        simp only at r0 r1 r2 hyes hnot hk1 hk2
        have HA := Lib.hid (fun w => asked_good w n z (k := k) (by omega))
        have hua := Lib.hid ((hu.out.alloc (.cells #[.int .i64 k, .string n, .string z] 41 (0, 0))).alloc (.cells #[.int .i64 k, .string n, .string z] 41 (0, 0)))
        have HG1 := Lib.hid (HG.out _ hua.out n)
        obtain ⟨g, hgv⟩ : ∃ g, Lb.get a n = g := ⟨_, rfl⟩
        rw [hgv] at HG1 hyes hnot
        have hc := Lib.hid (new2 wr (.cells #[.int .i64 k, .string n, .string z] 41 (0, 0)) (.cells #[.int .i64 k, .string n, .string z] 41 (0, 0)))
        clear hgv hu hk1 hk2
        go_wp2_with fail
        refine (HA.out _).mono ?_
        rintro e w3 ⟨f, c, rfl, rfl, hf, hent⟩
        replace hf := Lib.hid hf
        clear HA r0 r1 r2
        go_wp2_with fail
        refine HG1.out.mono ?_
        rintro e w4 ⟨rfl, hu4⟩
        have hu5 := Lib.hid (hua.out.trans hu4)
        have hc4 := Lib.hid (Lb.New0.cells hu4 (by rw [Lib.cell_of_heap hc.out]; rfl) : w4.cell? ⟨wr.heap.size + 1, 2, none⟩ = some (.string z))
        have HF : Hid (Calls Try.prog f (#[.string g] ++ c) w4 fun e w' => e = .returned (.bool (holds (k, n, z) g)) ∧ New0 w4 w') := Lib.hid (hf.out w4 g (by simpa using hc4.out))
        clear HG1 hua hu4 hc hf hc4
        cases hx : holds (k, n, z) g with
        | true =>
          have hG := Lib.hid (hyes.out hx)
          rw [hx] at HF
          clear hyes hnot hx
          go_wp2_with fail
          refine HF.out.mono ?_
          rintro e w5 ⟨rfl, hu6⟩
          have hu7 := Lib.hid (hu5.out.trans hu6)
          clear HF hu5 hu6 hent
          go_wp2_with fail
          go_roundw
          case rel => exact ⟨j + 1, by go_num, hlt, hG, hu7⟩
          case measure => simp [intOf]; omega
        | false =>
          have hG := Lib.hid (hnot.out hx)
          rw [hx] at HF
          clear hyes hnot hx
          go_wp2_with fail
          refine HF.out.mono ?_
          rintro e w5 ⟨rfl, hu6⟩
          have hu7 := Lib.hid (hu5.out.trans hu6)
          clear HF hu5 hu6 hent
          go_wp2_with fail
          go_ret
          exact ⟨Lb.ret_b hG.out, hu7.out⟩
      · have hE : Hid (true = q) := Lib.hid (by rw [← hg.out, all_end hlt])
        clear hg hv hri
        go_wp2_with fail
        go_ret
        exact ⟨Lb.ret_b hE.out, hu.out⟩
  · have hR : Hid (false = is l a) := Lib.hid (is_no h0).symm
    obtain ⟨z, hz⟩ : ∃ z, chk l = z := ⟨_, rfl⟩
    rw [hz] at HC h0
    have d : ((z : Int) != 0) = true := by rw [bne_iff_ne]; omega
    clear hv hb h0 hz HG
    go_enter Try.func31, Try.ntmps31
    go_wp2_with fail
    refine HC.out.mono ?_
    rintro e w1 ⟨rfl, hu1⟩
    replace hu1 := Lib.hid hu1
    clear HC
    go_wp2_with fail
    go_ret
    exact ⟨Lb.ret_b hR.out, hu1.out⟩
theorem check_is (w : World) (S : Nat → Prop) (v : Value) (l : List M) (hv : View w S v l) (hb : Bnd l) {z : Nat} (h : chk l = z) :
    Calls Try.prog 29 #[v] w fun e w' => e = .returned (.int .i64 (z : Int)) ∧ New0 w w' := by
  subst h; exact check_any w S v l hv hb
theorem So.step' {l : List M} {j : Nat} {s : ByteArray} (h : So l j s) (hj : j < l.length) : So l (j + 1) (s ++ (numA l[j].1.toNat ++ textA l[j].2.1 ++ textA l[j].2.2)) := by
  have := h.step hj
  rwa [ByteArray.append_assoc, ByteArray.append_assoc, ← ByteArray.append_assoc (a := numA _)] at this
end Mt
end Go.Proofs.Ytklgdllllboipaa
end
