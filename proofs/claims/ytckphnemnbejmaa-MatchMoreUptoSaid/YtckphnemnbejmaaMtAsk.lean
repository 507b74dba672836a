/- The program's matchers (layer 11): what a kind asks (asked and its four functions), checkOne, Check. -/
import Derived.Test.YtckphnemnbejmaaPLb2
import Derived.Test.YtckphnemnbejmaaMtTake2
set_option maxRecDepth 100000
namespace Go.Proofs.Ytckphnemnbejmaa
open Go.RowKit Go.Sort
namespace Mt
open Bit Dsk Ob Dig Lb
set_option linter.unusedVariables false

/-- The block that a matcher is laid in. -/
abbrev mBlk (m : M) : Go.Obj := .cells #[.int .i64 m.1, .string m.2.1, .string m.2.2] 37 (0, 0)
/-- What 'asked' answers: the function, or none. -/
def AskF (k : Int) (b : Nat) : Value :=
  if k = 1 then .func (.func 35) #[] #[.pointer (some ⟨b, 0, none⟩)] else if k = 2 then .func (.func 36) #[] #[.pointer (some ⟨b, 0, none⟩)] else
  if k = 3 then .func (.func 37) #[] #[.pointer (some ⟨b, 0, none⟩)] else if k = 4 then .func (.func 39) #[] #[] else Value.nilFunc
set_option maxHeartbeats 1600000 in
theorem asked_any (w : World) (m : M) : Calls Try.prog 25 #[mv m] w fun e w' => e = .returned (AskF m.1 w.heap.size) ∧ w' = w.alloc (mBlk m) := by
  obtain ⟨k, n, v⟩ := m
  unfold mv mBlk
  simp only
  by_cases h1 : k = 1
  · subst h1
    have hR : Hid (Value.func (.func 35) #[] #[.pointer (some ⟨w.heap.size, 0, none⟩)] = AskF 1 w.heap.size) := Lib.hid rfl
    go_enter Try.func25, Try.ntmps25
    go_wp2_with fail
    go_ret
    exact ⟨congrArg Ending.returned hR.out, rfl⟩
  have e1 : (k == 1) = false := by rw [beq_eq_false_iff_ne]; exact h1
  by_cases h2 : k = 2
  · subst h2
    have hR : Hid (Value.func (.func 36) #[] #[.pointer (some ⟨w.heap.size, 0, none⟩)] = AskF 2 w.heap.size) := Lib.hid rfl
    clear h1 e1
    go_enter Try.func25, Try.ntmps25
    go_wp2_with fail
    go_ret
    exact ⟨congrArg Ending.returned hR.out, rfl⟩
  have e2 : (k == 2) = false := by rw [beq_eq_false_iff_ne]; exact h2
  by_cases h3 : k = 3
  · subst h3
    have hR : Hid (Value.func (.func 37) #[] #[.pointer (some ⟨w.heap.size, 0, none⟩)] = AskF 3 w.heap.size) := Lib.hid rfl
    clear h1 e1 h2 e2
    go_enter Try.func25, Try.ntmps25
    go_wp2_with fail
    go_ret
    exact ⟨congrArg Ending.returned hR.out, rfl⟩
  have e3 : (k == 3) = false := by rw [beq_eq_false_iff_ne]; exact h3
  by_cases h4 : k = 4
  · subst h4
    have hR : Hid (Value.func (.func 39) #[] #[] = AskF 4 w.heap.size) := Lib.hid rfl
    clear h1 e1 h2 e2 h3 e3
    go_enter Try.func25, Try.ntmps25
    go_wp2_with fail
    go_ret
    exact ⟨congrArg Ending.returned hR.out, rfl⟩
  have e4 : (k == 4) = false := by rw [beq_eq_false_iff_ne]; exact h4
  have hR : Hid (Value.nilFunc = AskF k w.heap.size) := Lib.hid (by unfold AskF; rw [if_neg h1, if_neg h2, if_neg h3, if_neg h4])
  clear h1 h2 h3 h4
  go_enter Try.func25, Try.ntmps25
  go_wp2_with fail
  go_ret
  exact ⟨congrArg Ending.returned hR.out, rfl⟩
theorem ask_1 (w : World) (b : Nat) (v g : ByteArray) (hc : w.cell? ⟨b, 2, none⟩ = some (.string v)) :
    Calls Try.prog 35 #[.string g, .pointer (some ⟨b, 0, none⟩)] w fun e w' => e = .returned (.bool (decide (g = v))) ∧ New0 w w' := by
  have hR : Hid ((g.toList == v.toList) = decide (g = v)) := Lib.hid (Lb.toList_beq _ _)
  go_enter Try.func35, Try.ntmps35
  go_wp2_with fail
  go_ret
  exact ⟨Lb.ret_b hR.out, Upon.refl _ _⟩
theorem ask_2 (w : World) (b : Nat) (v g : ByteArray) (hc : w.cell? ⟨b, 2, none⟩ = some (.string v)) :
    Calls Try.prog 36 #[.string g, .pointer (some ⟨b, 0, none⟩)] w fun e w' => e = .returned (.bool (!decide (g = v))) ∧ New0 w w' := by
  have hR : Hid ((!(g.toList == v.toList)) = !decide (g = v)) := Lib.hid (by rw [Lb.toList_beq])
  go_enter Try.func36, Try.ntmps36
  go_wp2_with fail
  go_ret
  exact ⟨Lb.ret_b hR.out, Upon.refl _ _⟩
theorem ask_4 (w : World) (g : ByteArray) :
    Calls Try.prog 39 #[.string g] w fun e w' => e = .returned (.bool (!decide (g.size = 0))) ∧ New0 w w' := by
  have hR : Hid ((!g.toList.isEmpty) = !decide (g.size = 0)) := Lib.hid (by rw [emp_is])
  go_enter Try.func39, Try.ntmps39
  go_wp2_with fail
  go_ret
  exact ⟨Lb.ret_b hR.out, Upon.refl _ _⟩
set_option maxHeartbeats 1600000 in
theorem prefix_any (s p : ByteArray) (w : World) :
    Calls Try.prog 38 #[.string s, .string p] w fun e w' => e = .returned (.bool (pre p s)) ∧ New0 w w' := by
  by_cases hs : p.size ≤ s.size
  · have hR : Hid (((s.extract 0 p.size).toList == p.toList) = pre p s) := Lib.hid (by rw [Lb.toList_beq, pre, decide_eq_true hs, Bool.true_and])
    have d1 : decide ((p.size : Int) ≤ (s.size : Int)) = true := decide_eq_true (by omega)
    have d1' : decide (p.size ≤ s.size) = true := decide_eq_true hs
    go_enter Try.func38, Try.ntmps38
    go_wp2_with go_in
    go_ret
    exact ⟨Lb.ret_b hR.out, Upon.refl _ _⟩
  · have hR : Hid (false = pre p s) := Lib.hid (by rw [pre, decide_eq_false hs, Bool.false_and])
    have d1 : decide ((p.size : Int) ≤ (s.size : Int)) = false := decide_eq_false (by omega)
    have d1' : decide (p.size ≤ s.size) = false := decide_eq_false hs
    go_enter Try.func38, Try.ntmps38
    go_wp2_with go_in
    go_ret
    exact ⟨Lb.ret_b hR.out, Upon.refl _ _⟩
theorem ask_3 (w : World) (b : Nat) (v g : ByteArray) (hc : w.cell? ⟨b, 2, none⟩ = some (.string v)) :
    Calls Try.prog 37 #[.string g, .pointer (some ⟨b, 0, none⟩)] w fun e w' => e = .returned (.bool (pre v g)) ∧ New0 w w' := by
  have HP := Lib.hid (prefix_any g v)
  go_enter Try.func37, Try.ntmps37
  go_wp2_with fail
  refine (HP.out _).mono ?_
  rintro e w2 ⟨rfl, hu⟩
  replace hu := Lib.hid hu
  clear HP
  go_wp2_with fail
  go_ret
  exact ⟨rfl, hu.out⟩

/-! ### what is wrong with one -/
theorem askF_kind {k : Int} (b : Nat) (h : k < 1 ∨ 4 < k) : AskF k b = Value.nilFunc := by
  unfold AskF; rw [if_neg (by omega), if_neg (by omega), if_neg (by omega), if_neg (by omega)]
theorem askF_some {k : Int} (b : Nat) (h : ¬ (k < 1 ∨ 4 < k)) : ∃ f c, AskF k b = .func (.func f) #[] c := by
  have : k = 1 ∨ k = 2 ∨ k = 3 ∨ k = 4 := by omega
  rcases this with rfl | rfl | rfl | rfl
  · exact ⟨_, _, rfl⟩
  · exact ⟨_, _, rfl⟩
  · exact ⟨_, _, rfl⟩
  · exact ⟨_, _, rfl⟩
theorem lb_ok {n v : ByteArray} (h1 : Lb.nm n = true) (h2 : Lb.vl v = true) : Lb.Ok [(n, v)] := ⟨by simp, by simp, ⟨fun p hp => by rw [List.mem_singleton.1 hp]; exact ⟨h1, h2⟩, List.pairwise_singleton _ _⟩⟩
theorem lb_name {n v : ByteArray} (h1 : Lb.nm n = false) : ¬ Lb.Ok [(n, v)] := fun h => by
  have := (h.at 0 (by simp)).1
  simp at this
  rw [h1] at this; cases this
theorem lb_value {n v : ByteArray} (h1 : Lb.vl v = false) : ¬ Lb.Ok [(n, v)] := fun h => by
  have := (h.at 0 (by simp)).2
  simp at this
  rw [h1] at this; cases this
theorem lb_dash : Lb.vl ⟨#[45]⟩ = true := by decide
theorem asked_no (w : World) {k : Int} (n v : ByteArray) (h : k < 1 ∨ 4 < k) : Calls Try.prog 25 #[.agg #[.int .i64 k, .string n, .string v]] w fun e w' => e = .returned Value.nilFunc ∧ w' = w.alloc (.cells #[.int .i64 k, .string n, .string v] 37 (0, 0)) := by
  have := asked_any w (k, n, v)
  rw [askF_kind _ h] at this
  exact this
theorem asked_yes (w : World) {k : Int} (n v : ByteArray) (h : ¬ (k < 1 ∨ 4 < k)) : Calls Try.prog 25 #[.agg #[.int .i64 k, .string n, .string v]] w fun e w' => ∃ f c, e = .returned (.func (.func f) #[] c) ∧ w' = w.alloc (.cells #[.int .i64 k, .string n, .string v] 37 (0, 0)) := by
  obtain ⟨f, c, hf⟩ := askF_some w.heap.size h
  exact (asked_any w (k, n, v)).mono fun e w' ⟨h1, h2⟩ => ⟨f, c, by rw [h1, ← hf], h2⟩
theorem run_noF (W : World) : Sem.run Try.prog (binOp BinOp.eql 33 Value.nilFunc Value.nilFunc) W = .ok (.bool true) W := by kernel_rfl
theorem run_isF (W : World) (f : Fn) (c : Array Value) : Sem.run Try.prog (binOp BinOp.eql 33 (.func f #[] c) Value.nilFunc) W = .ok (.bool false) W := by kernel_rfl
/-- label.Check of one pair. -/
theorem lbcheck_yes {n v : ByteArray} (h1 : Lb.nm n = true) (h2 : Lb.vl v = true) (hn : n.size ≤ 9223372036854775807) (hv : v.size ≤ 9223372036854775807) (w : World) {g : Nat} (h : w.heap[g]? = some (.cells #[.string n, .string v] 40 (0, 0))) :
    Calls Try.prog 32 #[.slice (some ⟨g, 0, none⟩) 1 1] w fun e w' => e = .returned (.int .i64 0) ∧ New0 w w' :=
  Lb.check_ok w _ _ _ (Lb.view_one h) (fun p hp => by rw [List.mem_singleton.1 hp]; exact ⟨hn, hv⟩) (lb_ok h1 h2)
theorem lbcheck_not {n v : ByteArray} (h1 : Lb.nm n = false ∨ Lb.vl v = false) (hn : n.size ≤ 9223372036854775807) (hv : v.size ≤ 9223372036854775807) (w : World) {g : Nat} (h : w.heap[g]? = some (.cells #[.string n, .string v] 40 (0, 0))) :
    Calls Try.prog 32 #[.slice (some ⟨g, 0, none⟩) 1 1] w fun e w' => e = .returned (.int .i64 16) ∧ New0 w w' :=
  Lb.check_no w _ _ _ (Lb.view_one h) (fun p hp => by rw [List.mem_singleton.1 hp]; exact ⟨hn, hv⟩) (h1.elim lb_name lb_value)
theorem new4 (w : World) (a b c d : Go.Obj) : ((((w.alloc a).alloc b).alloc c).alloc d).heap[w.heap.size + 1 + 1 + 1]? = some d := by
  have := cell_new (((w.alloc a).alloc b).alloc c) d
  simpa using this
theorem new4u (w : World) (a b c d : Go.Obj) : New0 w ((((w.alloc a).alloc b).alloc c).alloc d) := ((((Upon.refl _ w).alloc a).alloc b).alloc c).alloc d
set_option maxHeartbeats 3200000 in
theorem checkone_any (w : World) (m : M) (hb : Bnd1 m) :
    Calls Try.prog 23 #[mv m] w fun e w' => e = .returned (.int .i64 (right m : Int)) ∧ New0 w w' := by
  obtain ⟨k, n, v⟩ := m
  obtain ⟨-, -, hn, hv⟩ := hb
  simp only at hn hv
  unfold mv
  have hq0 := fun W => run_noF W
  have hq1 := fun W f c => run_isF W f c
  have hU := Lib.hid ((Upon.refl (fun _ => False) w).alloc (.cells #[.int .i64 k, .string n, .string v] 37 (0, 0)))
  have hU2 := Lib.hid (hU.out.alloc (.cells #[.int .i64 k, .string n, .string v] 37 (0, 0)))
  by_cases ck : k < 1 ∨ 4 < k
  · have hR : Hid ((5 : Int) = (right (k, n, v) : Int)) := Lib.hid (by rw [right_kind ck]; rfl)
    have HA := Lib.hid (fun w => asked_no w n v ck)
    clear ck
    go_enter Try.func23, Try.ntmps23
    go_wp2_with fail
    refine (HA.out _).mono ?_
    rintro e w2 ⟨rfl, rfl⟩
    clear HA
    go_wp2_with fail
    go_ret
    exact ⟨Lb.ret_i hR.out, hU2.out⟩
  have HA := Lib.hid (fun w => asked_yes w n v ck)
  by_cases h0 : v.size = 0
  · have d0 := emp_yes h0
    cases hnm : Lb.nm n with
    | true =>
      have hR : Hid ((0 : Int) = (right (k, n, v) : Int)) := Lib.hid (by rw [right_emp ck hnm h0]; rfl)
      have hL := Lib.hid (fun w g h => lbcheck_yes hnm lb_dash hn (by decide) w (g := g) h)
      clear ck hnm
      go_enter Try.func23, Try.ntmps23
      go_wp2_with fail
      refine (HA.out _).mono ?_
      rintro e w2 ⟨f, c, rfl, rfl⟩
      clear HA
      go_wp2_with fail
      all_goals
        refine (hL.out _ _ (new4 w _ _ _ _)).mono ?_
        rintro e w3 ⟨rfl, hu3⟩
        have hu4 := Lib.hid ((new4u w _ _ _ _).trans hu3)
        clear hL hu3
        go_wp2_with fail
        go_ret
        exact ⟨Lb.ret_i hR.out, hu4.out⟩
    | false =>
      have hR : Hid ((3 : Int) = (right (k, n, v) : Int)) := Lib.hid (by rw [right_field ck (.inl hnm)]; rfl)
      have hL := Lib.hid (fun w g h => lbcheck_not (v := ⟨#[45]⟩) (.inl hnm) hn (by decide) w (g := g) h)
      clear ck hnm
      go_enter Try.func23, Try.ntmps23
      go_wp2_with fail
      refine (HA.out _).mono ?_
      rintro e w2 ⟨f, c, rfl, rfl⟩
      clear HA
      go_wp2_with fail
      all_goals
        refine (hL.out _ _ (new4 w _ _ _ _)).mono ?_
        rintro e w3 ⟨rfl, hu3⟩
        have hu4 := Lib.hid ((new4u w _ _ _ _).trans hu3)
        clear hL hu3
        go_wp2_with fail
        go_ret
        exact ⟨Lb.ret_i hR.out, hu4.out⟩
  have d0 := emp_no h0
  by_cases h4 : k = 4
  · have hR : Hid ((3 : Int) = (right (k, n, v) : Int)) := Lib.hid (by rw [right_field ck (.inr ⟨h0, .inr h4⟩)]; rfl)
    subst h4
    clear ck
    go_enter Try.func23, Try.ntmps23
    go_wp2_with fail
    refine (HA.out _).mono ?_
    rintro e w2 ⟨f, c, rfl, rfl⟩
    clear HA
    go_wp2_with fail
    go_ret
    exact ⟨Lb.ret_i hR.out, hU2.out⟩
  have e4 : (k == 4) = false := by rw [beq_eq_false_iff_ne]; exact h4
  by_cases hg : Lb.nm n = true ∧ Lb.vl v = true
  · have hR : Hid ((0 : Int) = (right (k, n, v) : Int)) := Lib.hid (by rw [right_val ck hg.1 hg.2 h4]; rfl)
    have hL := Lib.hid (fun w g h => lbcheck_yes hg.1 hg.2 hn hv w (g := g) h)
    clear ck hg h4
    go_enter Try.func23, Try.ntmps23
    go_wp2_with fail
    refine (HA.out _).mono ?_
    rintro e w2 ⟨f, c, rfl, rfl⟩
    clear HA
    go_wp2_with fail
    refine (hL.out _ _ (new4 w _ _ _ _)).mono ?_
    rintro e w3 ⟨rfl, hu3⟩
    have hu4 := Lib.hid ((new4u w _ _ _ _).trans hu3)
    clear hL hu3
    go_wp2_with fail
    go_ret
    exact ⟨Lb.ret_i hR.out, hu4.out⟩
  · have hg' : Lb.nm n = false ∨ Lb.vl v = false := by
      cases h1 : Lb.nm n with
      | false => exact .inl rfl
      | true =>
        cases h2 : Lb.vl v with
        | false => exact .inr rfl
        | true => exact absurd ⟨h1, h2⟩ hg
    have hR : Hid ((3 : Int) = (right (k, n, v) : Int)) := Lib.hid (by rw [right_field ck (hg'.imp id fun h => ⟨h0, .inl h⟩)]; rfl)
    have hL := Lib.hid (fun w g h => lbcheck_not hg' hn hv w (g := g) h)
    clear ck hg hg' h4
    go_enter Try.func23, Try.ntmps23
    go_wp2_with fail
    refine (HA.out _).mono ?_
    rintro e w2 ⟨f, c, rfl, rfl⟩
    clear HA
    go_wp2_with fail
    refine (hL.out _ _ (new4 w _ _ _ _)).mono ?_
    rintro e w3 ⟨rfl, hu3⟩
    have hu4 := Lib.hid ((new4u w _ _ _ _).trans hu3)
    clear hL hu3
    go_wp2_with fail
    go_ret
    exact ⟨Lb.ret_i hR.out, hu4.out⟩
set_option maxHeartbeats 1600000 in
theorem check_any (w : World) (S : Nat → Prop) (v : Value) (l : List M) (hv : View w S v l) (hb : Bnd l) :
    Calls Try.prog 11 #[v] w fun e w' => e = .returned (.int .i64 (chk l : Int)) ∧ New0 w w' := by
  obtain ⟨A, c, rfl, -, -⟩ := Rw.View.shape hv
  replace hv := Lib.hid hv
  replace hb := Lib.hid hb
  by_cases h8 : 8 < l.length
  · have hR : Hid ((8 : Int) = (chk l : Int)) := Lib.hid (by rw [chk_long h8]; rfl)
    have d2 : (8 : Int) < (l.length : Int) := by omega
    go_enter Try.func11, Try.ntmps11
    go_wp2_with fail
    go_ret
    exact ⟨Lb.ret_i hR.out, Upon.refl _ _⟩
  have d2 : ¬ (8 : Int) < (l.length : Int) := by omega
  have hf : Hid (first l = chk l) := Lib.hid (chk_few h8).symm
  obtain ⟨q, hq⟩ : ∃ q, chk l = q := ⟨_, rfl⟩
  rw [hq] at hf ⊢
  clear hq
  go_enter Try.func11, Try.ntmps11
  go_wp2_with fail
  go_loopw [11] (fun ov wr => ∃ j : Nat, ov = .int .i64 (j : Int) ∧ j ≤ l.length ∧ Hid (first (l.drop j) = q) ∧ Hid (New0 w wr)) (fun ov _ => l.length - (intOf ov).toNat)
  case atStart => exact ⟨0, rfl, Nat.zero_le _, hf, Lib.hid (Upon.refl _ _)⟩
  case round =>
    clear hf
    obtain ⟨j, rfl, hj, hg, hu⟩ := hrel
    by_cases hlt : j < l.length
    · obtain ⟨b, off, rfl, -, -, hcells⟩ := View.cells hv.out (by omega)
      obtain ⟨x0, x1, x2⟩ := hcells j hlt
      have r0 := Lb.New0.cells hu.out x0
      have r1 := Lb.New0.cells hu.out x1
      have r2 := Lb.New0.cells hu.out x2
      have HR := Lib.hid (fun w => checkone_any w l[j] (hb.out _ (List.getElem_mem hlt)))
      have hbad := Lib.hid (fun h => (first_bad hlt h).symm.trans hg.out)
      have hgood := Lib.hid (fun h => (first_good hlt h).symm.trans hg.out)
      obtain ⟨m, hm⟩ : ∃ m, l[j] = m := ⟨_, rfl⟩
      rw [hm] at r0 r1 r2 HR hbad hgood
      clear hcells x0 x1 x2 hm hg
      obtain ⟨a, b', c'⟩ := m
      have hua := Lib.hid (hu.out.alloc (.cells #[.int .i64 a, .string b', .string c'] 37 (0, 0)))
      unfold mv at HR
      by_cases he : right (a, b', c') = 0
      · have hG := Lib.hid (hgood.out he)
        rw [he] at HR
        clear hbad hgood he
        go_wp2_with fail
        refine (HR.out _).mono ?_
        rintro e w2 ⟨rfl, hu2⟩
        have hu3 := Lib.hid (hua.out.trans hu2)
        clear HR hu hu2 hua r0 r1 r2
        go_wp2_with fail
        go_roundw
        case rel => exact ⟨j + 1, by go_num, hlt, hG, hu3⟩
        case measure => simp [intOf]; omega
      · have hG := Lib.hid (hbad.out he)
        obtain ⟨z, hz⟩ : ∃ z, right (a, b', c') = z := ⟨_, rfl⟩
        rw [hz] at HR hG he
        have d : ((z : Int) != 0) = true := by rw [bne_iff_ne]; omega
        have hE : Hid ((z : Int) = (q : Int)) := Lib.hid (by rw [hG.out])
        clear hbad hgood he hz hG
        go_wp2_with fail
        refine (HR.out _).mono ?_
        rintro e w2 ⟨rfl, hu2⟩
        have hu3 := Lib.hid (hua.out.trans hu2)
        clear HR hu hu2 hua r0 r1 r2
        go_wp2_with fail
        go_ret
        exact ⟨Lb.ret_i hE.out, hu3.out⟩
    · have hE : Hid ((0 : Int) = (q : Int)) := Lib.hid (by have := hg.out; rw [first_end hlt] at this; rw [← this]; rfl)
      clear hg hv hb
      go_wp2_with fail
      go_ret
      exact ⟨Lb.ret_i hE.out, hu.out⟩
end Mt
end Go.Proofs.Ytckphnemnbejmaa
