/- Parts, put together: MtAsk, MtGet, MtProg. -/
import Derived.Test.YtlgjbcmloochiaaGreatDoorZaPLb2
import Derived.Test.YtlgjbcmloochiaaGreatDoorZaPMt1

/- The program's matchers (layer 11): what a kind asks (asked and its four functions), checkOne, Check. -/
section
set_option maxRecDepth 100000
namespace Go.Proofs.YtlgjbcmloochiaaGreatDoor
open Go.RowKit Go.Sort
namespace Mt
open Bit Dsk Ob Dig Lb
set_option linter.unusedVariables false

/-- The block that a matcher is laid in. -/
abbrev mBlk (m : M) : Go.Obj := .cells #[.int .i64 m.1, .string m.2.1, .string m.2.2] 190 (0, 0)
/-- What 'asked' answers: the function, or none. -/
def AskF (k : Int) (b : Nat) : Value :=
  if k = 1 then .func (.func 198) #[] #[.pointer (some ⟨b, 0, none⟩)] else if k = 2 then .func (.func 199) #[] #[.pointer (some ⟨b, 0, none⟩)] else
  if k = 3 then .func (.func 200) #[] #[.pointer (some ⟨b, 0, none⟩)] else if k = 4 then .func (.func 202) #[] #[] else Value.nilFunc
set_option maxHeartbeats 1600000 in
theorem asked_any (w : World) (m : M) : Calls Tryz.prog 177 #[mv m] w fun e w' => e = .returned (AskF m.1 w.heap.size) ∧ w' = w.alloc (mBlk m) := by
  obtain ⟨k, n, v⟩ := m
  unfold mv mBlk
  simp only
  by_cases h1 : k = 1
  · subst h1
    have hR : Hid (Value.func (.func 198) #[] #[.pointer (some ⟨w.heap.size, 0, none⟩)] = AskF 1 w.heap.size) := Lib.hid rfl
    go_enter Tryz.func177, Tryz.ntmps177
    go_wp2_with fail
    go_ret
    exact ⟨congrArg Ending.returned hR.out, rfl⟩
  have e1 : (k == 1) = false := by rw [beq_eq_false_iff_ne]; exact h1
  by_cases h2 : k = 2
  · subst h2
    have hR : Hid (Value.func (.func 199) #[] #[.pointer (some ⟨w.heap.size, 0, none⟩)] = AskF 2 w.heap.size) := Lib.hid rfl
    clear h1 e1
    go_enter Tryz.func177, Tryz.ntmps177
    go_wp2_with fail
    go_ret
    exact ⟨congrArg Ending.returned hR.out, rfl⟩
  have e2 : (k == 2) = false := by rw [beq_eq_false_iff_ne]; exact h2
  by_cases h3 : k = 3
  · subst h3
    have hR : Hid (Value.func (.func 200) #[] #[.pointer (some ⟨w.heap.size, 0, none⟩)] = AskF 3 w.heap.size) := Lib.hid rfl
    clear h1 e1 h2 e2
    go_enter Tryz.func177, Tryz.ntmps177
    go_wp2_with fail
    go_ret
    exact ⟨congrArg Ending.returned hR.out, rfl⟩
  have e3 : (k == 3) = false := by rw [beq_eq_false_iff_ne]; exact h3
  by_cases h4 : k = 4
  · subst h4
    have hR : Hid (Value.func (.func 202) #[] #[] = AskF 4 w.heap.size) := Lib.hid rfl
    clear h1 e1 h2 e2 h3 e3
    go_enter Tryz.func177, Tryz.ntmps177
    go_wp2_with fail
    go_ret
    exact ⟨congrArg Ending.returned hR.out, rfl⟩
  have e4 : (k == 4) = false := by rw [beq_eq_false_iff_ne]; exact h4
  have hR : Hid (Value.nilFunc = AskF k w.heap.size) := Lib.hid (by unfold AskF; rw [if_neg h1, if_neg h2, if_neg h3, if_neg h4])
  clear h1 h2 h3 h4
  go_enter Tryz.func177, Tryz.ntmps177
  go_wp2_with fail
  go_ret
  exact ⟨congrArg Ending.returned hR.out, rfl⟩

/-! ### what is wrong with one -/
theorem askF_kind {k : Int} (b : Nat) (h : k < 1 ∨ 4 < k) : AskF k b = Value.nilFunc := by
  unfold AskF; rw [if_neg (by omega), if_neg (by omega), if_neg (by omega), if_neg (by omega)]
theorem askF_some {k : Int} (b : Nat) (h : ¬ (k < 1 ∨ 4 < k)) : ∃ f c, AskF k b = .func (.func f) #[] c := by
  have : k = 1 ∨ k = 2 ∨ k = 3 ∨ k = 4 := by omega
  rcases this with rfl | rfl | rfl | rfl
  · exact ⟨_, _, rfl⟩
  · exact ⟨_, _, rfl⟩
  · exact ⟨_, _, rfl⟩
  · exact ⟨_, _, rfl⟩
theorem lb_ok {n v : ByteArray} (h1 : Lb.nm n = true) (h2 : Lb.vl v = true) : Lb.Ok [(n, v)] := ⟨by simp, by simp, ⟨fun p hp => by rw [List.mem_singleton.1 hp]; exact ⟨h1, h2⟩, List.pairwise_singleton _ _⟩⟩
theorem lb_name {n v : ByteArray} (h1 : Lb.nm n = false) : ¬ Lb.Ok [(n, v)] := fun h => by
  have := (h.at 0 (by simp)).1
  simp at this
  rw [h1] at this; cases this
theorem lb_value {n v : ByteArray} (h1 : Lb.vl v = false) : ¬ Lb.Ok [(n, v)] := fun h => by
  have := (h.at 0 (by simp)).2
  simp at this
  rw [h1] at this; cases this
theorem lb_dash : Lb.vl ⟨#[45]⟩ = true := by decide
theorem asked_no (w : World) {k : Int} (n v : ByteArray) (h : k < 1 ∨ 4 < k) : Calls Tryz.prog 177 #[.agg #[.int .i64 k, .string n, .string v]] w fun e w' => e = .returned Value.nilFunc ∧ w' = w.alloc (.cells #[.int .i64 k, .string n, .string v] 190 (0, 0)) := by
  have := asked_any w (k, n, v)
  rw [askF_kind _ h] at this
  exact this
theorem asked_yes (w : World) {k : Int} (n v : ByteArray) (h : ¬ (k < 1 ∨ 4 < k)) : Calls Tryz.prog 177 #[.agg #[.int .i64 k, .string n, .string v]] w fun e w' => ∃ f c, e = .returned (.func (.func f) #[] c) ∧ w' = w.alloc (.cells #[.int .i64 k, .string n, .string v] 190 (0, 0)) := by
  obtain ⟨f, c, hf⟩ := askF_some w.heap.size h
  exact (asked_any w (k, n, v)).mono fun e w' ⟨h1, h2⟩ => ⟨f, c, by rw [h1, ← hf], h2⟩
theorem run_noF (W : World) : Sem.run Tryz.prog (binOp BinOp.eql 43 Value.nilFunc Value.nilFunc) W = .ok (.bool true) W := by kernel_rfl
theorem run_isF (W : World) (f : Fn) (c : Array Value) : Sem.run Tryz.prog (binOp BinOp.eql 43 (.func f #[] c) Value.nilFunc) W = .ok (.bool false) W := by kernel_rfl
/-- label.Check of one pair. -/
theorem lbcheck_yes {n v : ByteArray} (h1 : Lb.nm n = true) (h2 : Lb.vl v = true) (hn : n.size ≤ 9223372036854775807) (hv : v.size ≤ 9223372036854775807) (w : World) {g : Nat} (h : w.heap[g]? = some (.cells #[.string n, .string v] 72 (0, 0))) :
    Calls Tryz.prog 75 #[.slice (some ⟨g, 0, none⟩) 1 1] w fun e w' => e = .returned (.int .i64 0) ∧ New0 w w' :=
  Lb.check_ok w _ _ _ (Lb.view_one h) (fun p hp => by rw [List.mem_singleton.1 hp]; exact ⟨hn, hv⟩) (lb_ok h1 h2)
theorem lbcheck_not {n v : ByteArray} (h1 : Lb.nm n = false ∨ Lb.vl v = false) (hn : n.size ≤ 9223372036854775807) (hv : v.size ≤ 9223372036854775807) (w : World) {g : Nat} (h : w.heap[g]? = some (.cells #[.string n, .string v] 72 (0, 0))) :
    Calls Tryz.prog 75 #[.slice (some ⟨g, 0, none⟩) 1 1] w fun e w' => e = .returned (.int .i64 16) ∧ New0 w w' :=
  Lb.check_no w _ _ _ (Lb.view_one h) (fun p hp => by rw [List.mem_singleton.1 hp]; exact ⟨hn, hv⟩) (h1.elim lb_name lb_value)
theorem new4 (w : World) (a b c d : Go.Obj) : ((((w.alloc a).alloc b).alloc c).alloc d).heap[w.heap.size + 1 + 1 + 1]? = some d := by
  have := cell_new (((w.alloc a).alloc b).alloc c) d
  simpa using this
theorem new4u (w : World) (a b c d : Go.Obj) : New0 w ((((w.alloc a).alloc b).alloc c).alloc d) := ((((Upon.refl _ w).alloc a).alloc b).alloc c).alloc d
set_option maxHeartbeats 3200000 in
theorem checkone_any (w : World) (m : M) (hb : Bnd1 m) :
    Calls Tryz.prog 166 #[mv m] w fun e w' => e = .returned (.int .i64 (right m : Int)) ∧ New0 w w' := by
  obtain ⟨k, n, v⟩ := m
  obtain ⟨-, -, hn, hv⟩ := hb
  simp only at hn hv
  unfold mv
  have hq0 := fun W => run_noF W
  have hq1 := fun W f c => run_isF W f c
  have hU := Lib.hid ((Upon.refl (fun _ => False) w).alloc (.cells #[.int .i64 k, .string n, .string v] 190 (0, 0)))
  have hU2 := Lib.hid (hU.out.alloc (.cells #[.int .i64 k, .string n, .string v] 190 (0, 0)))
  by_cases ck : k < 1 ∨ 4 < k
  · have hR : Hid ((5 : Int) = (right (k, n, v) : Int)) := Lib.hid (by rw [right_kind ck]; rfl)
    have HA := Lib.hid (fun w => asked_no w n v ck)
    clear ck
    go_enter Tryz.func166, Tryz.ntmps166
    go_wp2_with fail
    refine (HA.out _).mono ?_
    rintro e w2 ⟨rfl, rfl⟩
    clear HA
    go_wp2_with fail
    go_ret
    exact ⟨Lb.ret_i hR.out, hU2.out⟩
  have HA := Lib.hid (fun w => asked_yes w n v ck)
  by_cases h0 : v.size = 0
  · have d0 := emp_yes h0
    cases hnm : Lb.nm n with
    | true =>
      have hR : Hid ((0 : Int) = (right (k, n, v) : Int)) := Lib.hid (by rw [right_emp ck hnm h0]; rfl)
      have hL := Lib.hid (fun w g h => lbcheck_yes hnm lb_dash hn (by decide) w (g := g) h)
      clear ck hnm
      go_enter Tryz.func166, Tryz.ntmps166
      go_wp2_with fail
      refine (HA.out _).mono ?_
      rintro e w2 ⟨f, c, rfl, rfl⟩
      clear HA
      go_wp2_with fail
      all_goals
        refine (hL.out _ _ (new4 w _ _ _ _)).mono ?_
        rintro e w3 ⟨rfl, hu3⟩
        have hu4 := Lib.hid ((new4u w _ _ _ _).trans hu3)
        clear hL hu3
        go_wp2_with fail
        go_ret
        exact ⟨Lb.ret_i hR.out, hu4.out⟩
    | false =>
      have hR : Hid ((3 : Int) = (right (k, n, v) : Int)) := Lib.hid (by rw [right_field ck (.inl hnm)]; rfl)
      have hL := Lib.hid (fun w g h => lbcheck_not (v := ⟨#[45]⟩) (.inl hnm) hn (by decide) w (g := g) h)
      clear ck hnm
      go_enter Tryz.func166, Tryz.ntmps166
      go_wp2_with fail
      refine (HA.out _).mono ?_
      rintro e w2 ⟨f, c, rfl, rfl⟩
      clear HA
      go_wp2_with fail
      all_goals
        refine (hL.out _ _ (new4 w _ _ _ _)).mono ?_
        rintro e w3 ⟨rfl, hu3⟩
        have hu4 := Lib.hid ((new4u w _ _ _ _).trans hu3)
        clear hL hu3
        go_wp2_with fail
        go_ret
        exact ⟨Lb.ret_i hR.out, hu4.out⟩
  have d0 := emp_no h0
  by_cases h4 : k = 4
  · have hR : Hid ((3 : Int) = (right (k, n, v) : Int)) := Lib.hid (by rw [right_field ck (.inr ⟨h0, .inr h4⟩)]; rfl)
    subst h4
    clear ck
    go_enter Tryz.func166, Tryz.ntmps166
    go_wp2_with fail
    refine (HA.out _).mono ?_
    rintro e w2 ⟨f, c, rfl, rfl⟩
    clear HA
    go_wp2_with fail
    go_ret
    exact ⟨Lb.ret_i hR.out, hU2.out⟩
  have e4 : (k == 4) = false := by rw [beq_eq_false_iff_ne]; exact h4
  by_cases hg : Lb.nm n = true ∧ Lb.vl v = true
  · have hR : Hid ((0 : Int) = (right (k, n, v) : Int)) := Lib.hid (by rw [right_val ck hg.1 hg.2 h4]; rfl)
    have hL := Lib.hid (fun w g h => lbcheck_yes hg.1 hg.2 hn hv w (g := g) h)
    clear ck hg h4
    go_enter Tryz.func166, Tryz.ntmps166
    go_wp2_with fail
    refine (HA.out _).mono ?_
    rintro e w2 ⟨f, c, rfl, rfl⟩
    clear HA
    go_wp2_with fail
    refine (hL.out _ _ (new4 w _ _ _ _)).mono ?_
    rintro e w3 ⟨rfl, hu3⟩
    have hu4 := Lib.hid ((new4u w _ _ _ _).trans hu3)
    clear hL hu3
    go_wp2_with fail
    go_ret
    exact ⟨Lb.ret_i hR.out, hu4.out⟩
  · have hg' : Lb.nm n = false ∨ Lb.vl v = false := by
      cases h1 : Lb.nm n with
      | false => exact .inl rfl
      | true =>
        cases h2 : Lb.vl v with
        | false => exact .inr rfl
        | true => exact absurd ⟨h1, h2⟩ hg
    have hR : Hid ((3 : Int) = (right (k, n, v) : Int)) := Lib.hid (by rw [right_field ck (hg'.imp id fun h => ⟨h0, .inl h⟩)]; rfl)
    have hL := Lib.hid (fun w g h => lbcheck_not hg' hn hv w (g := g) h)
    clear ck hg hg' h4
    go_enter Tryz.func166, Tryz.ntmps166
    go_wp2_with fail
    refine (HA.out _).mono ?_
    rintro e w2 ⟨f, c, rfl, rfl⟩
    clear HA
    go_wp2_with fail
    refine (hL.out _ _ (new4 w _ _ _ _)).mono ?_
    rintro e w3 ⟨rfl, hu3⟩
    have hu4 := Lib.hid ((new4u w _ _ _ _).trans hu3)
    clear hL hu3
    go_wp2_with fail
    go_ret
    exact ⟨Lb.ret_i hR.out, hu4.out⟩
set_option maxHeartbeats 1600000 in
theorem check_any (w : World) (S : Nat → Prop) (v : Value) (l : List M) (hv : View w S v l) (hb : Bnd l) :
    Calls Tryz.prog 128 #[v] w fun e w' => e = .returned (.int .i64 (chk l : Int)) ∧ New0 w w' := by
  obtain ⟨A, c, rfl, -, -⟩ := Rw.View.shape hv
  replace hv := Lib.hid hv
  replace hb := Lib.hid hb
  by_cases h8 : 8 < l.length
  · have hR : Hid ((8 : Int) = (chk l : Int)) := Lib.hid (by rw [chk_long h8]; rfl)
    have d2 : (8 : Int) < (l.length : Int) := by omega
    go_enter Tryz.func128, Tryz.ntmps128
    go_wp2_with fail
    go_ret
    exact ⟨Lb.ret_i hR.out, Upon.refl _ _⟩
  have d2 : ¬ (8 : Int) < (l.length : Int) := by omega
  have hf : Hid (first l = chk l) := Lib.hid (chk_few h8).symm
  obtain ⟨q, hq⟩ : ∃ q, chk l = q := ⟨_, rfl⟩
  rw [hq] at hf ⊢
  clear hq
  go_enter Tryz.func128, Tryz.ntmps128
  go_wp2_with fail
  go_loopw [11] (fun ov wr => ∃ j : Nat, ov = .int .i64 (j : Int) ∧ j ≤ l.length ∧ Hid (first (l.drop j) = q) ∧ Hid (New0 w wr)) (fun ov _ => l.length - (intOf ov).toNat)
  case atStart => exact ⟨0, rfl, Nat.zero_le _, hf, Lib.hid (Upon.refl _ _)⟩
  case round =>
    clear hf
    obtain ⟨j, rfl, hj, hg, hu⟩ := hrel
    by_cases hlt : j < l.length
    · obtain ⟨b, off, rfl, -, -, hcells⟩ := View.cells hv.out (by omega)
      obtain ⟨x0, x1, x2⟩ := hcells j hlt
      have r0 := Lb.New0.cells hu.out x0
      have r1 := Lb.New0.cells hu.out x1
      have r2 := Lb.New0.cells hu.out x2
      have HR := Lib.hid (fun w => checkone_any w l[j] (hb.out _ (List.getElem_mem hlt)))
      have hbad := Lib.hid (fun h => (first_bad hlt h).symm.trans hg.out)
      have hgood := Lib.hid (fun h => (first_good hlt h).symm.trans hg.out)
      obtain ⟨m, hm⟩ : ∃ m, l[j] = m := ⟨_, rfl⟩
      rw [hm] at r0 r1 r2 HR hbad hgood
      clear hcells x0 x1 x2 hm hg
      obtain ⟨a, b', c'⟩ := m
      have hua := Lib.hid (hu.out.alloc (.cells #[.int .i64 a, .string b', .string c'] 190 (0, 0)))
      unfold mv at HR
      by_cases he : right (a, b', c') = 0
      · have hG := Lib.hid (hgood.out he)
        rw [he] at HR
        clear hbad hgood he
        go_wp2_with fail
        refine (HR.out _).mono ?_
        rintro e w2 ⟨rfl, hu2⟩
        have hu3 := Lib.hid (hua.out.trans hu2)
        clear HR hu hu2 hua r0 r1 r2
        go_wp2_with fail
        go_roundw
        case rel => exact ⟨j + 1, by go_num, hlt, hG, hu3⟩
        case measure => simp [intOf]; omega
      · have hG := Lib.hid (hbad.out he)
        obtain ⟨z, hz⟩ : ∃ z, right (a, b', c') = z := ⟨_, rfl⟩
        rw [hz] at HR hG he
        have d : ((z : Int) != 0) = true := by rw [bne_iff_ne]; omega
        have hE : Hid ((z : Int) = (q : Int)) := Lib.hid (by rw [hG.out])
        clear hbad hgood he hz hG
        go_wp2_with fail
        refine (HR.out _).mono ?_
        rintro e w2 ⟨rfl, hu2⟩
        have hu3 := Lib.hid (hua.out.trans hu2)
        clear HR hu hu2 hua r0 r1 r2
        go_wp2_with fail
        go_ret
        exact ⟨Lb.ret_i hE.out, hu3.out⟩
    · have hE : Hid ((0 : Int) = (q : Int)) := Lib.hid (by have := hg.out; rw [first_end hlt] at this; rw [← this]; rfl)
      clear hg hv hb
      go_wp2_with fail
      go_ret
      exact ⟨Lb.ret_i hE.out, hu.out⟩
end Mt
end Go.Proofs.YtlgjbcmloochiaaGreatDoor
end

/- The program's matchers (layer 11): getOne, Get. -/
section
set_option maxRecDepth 100000
namespace Go.Proofs.YtlgjbcmloochiaaGreatDoor
open Go.RowKit Go.Sort
namespace Mt
open Bit Dsk Ob Dig Lb
set_option linter.unusedVariables false

/-! ### a block of three cells -/
def Three (T : TypeId) (g : Nat) (a b c : Value) (w : World) : Prop := w.heap[g]? = some (.cells #[a, b, c] T (0, 0))
theorem Three.new {T : TypeId} {g : Nat} {a b c : Value} {w w' : World} (h : Three T g a b c w) (hu : New0 w w') : Three T g a b c w' :=
  (hu.block g (Array.getElem?_eq_some_iff.1 h).1 fun f => f).trans h
theorem Three.cells {T : TypeId} {g : Nat} {a b c : Value} {w : World} (h : Three T g a b c w) : w.cell? ⟨g, 0, none⟩ = some a ∧ w.cell? ⟨g, 1, none⟩ = some b ∧ w.cell? ⟨g, 2, none⟩ = some c :=
  ⟨by rw [Lib.cell_of_heap h]; rfl, by rw [Lib.cell_of_heap h]; rfl, by rw [Lib.cell_of_heap h]; rfl⟩
theorem Three.frozen {T : TypeId} {g : Nat} {a b c : Value} {w : World} (h : Three T g a b c w) (i : Nat) : w.frozen? ⟨g, i, none⟩ = false := by
  unfold Three at h
  simp [World.frozen?, h]
theorem Three.set0 {T : TypeId} {g : Nat} {a b c : Value} {w : World} (h : Three T g a b c w) (x : Value) : Three T g x b c (w.setCell ⟨g, 0, none⟩ x) := by unfold Three at *; simp [World.setCell, Array.getElem?_modify, h]
theorem Three.set1 {T : TypeId} {g : Nat} {a b c : Value} {w : World} (h : Three T g a b c w) (x : Value) : Three T g a x c (w.setCell ⟨g, 1, none⟩ x) := by unfold Three at *; simp [World.setCell, Array.getElem?_modify, h]
theorem Three.set2 {T : TypeId} {g : Nat} {a b c : Value} {w : World} (h : Three T g a b c w) (x : Value) : Three T g a b x (w.setCell ⟨g, 2, none⟩ x) := by unfold Three at *; simp [World.setCell, Array.getElem?_modify, h]
/-- What a walk that writes all three asks, and what is there then. -/
structure Roads (g : Nat) (a b c x y z : Value) (w : World) : Prop where
  c0 : w.cell? ⟨g, 0, none⟩ = some a
  f0 : w.frozen? ⟨g, 0, none⟩ = false
  c1 : (w.setCell ⟨g, 0, none⟩ x).cell? ⟨g, 1, none⟩ = some b
  f1 : (w.setCell ⟨g, 0, none⟩ x).frozen? ⟨g, 1, none⟩ = false
  c2 : ((w.setCell ⟨g, 0, none⟩ x).setCell ⟨g, 1, none⟩ y).cell? ⟨g, 2, none⟩ = some c
  f2 : ((w.setCell ⟨g, 0, none⟩ x).setCell ⟨g, 1, none⟩ y).frozen? ⟨g, 2, none⟩ = false
  e0 : (((w.setCell ⟨g, 0, none⟩ x).setCell ⟨g, 1, none⟩ y).setCell ⟨g, 2, none⟩ z).cell? ⟨g, 0, none⟩ = some x
  e1 : (((w.setCell ⟨g, 0, none⟩ x).setCell ⟨g, 1, none⟩ y).setCell ⟨g, 2, none⟩ z).cell? ⟨g, 1, none⟩ = some y
  e2 : (((w.setCell ⟨g, 0, none⟩ x).setCell ⟨g, 1, none⟩ y).setCell ⟨g, 2, none⟩ z).cell? ⟨g, 2, none⟩ = some z
theorem Three.roads {T : TypeId} {g : Nat} {a b c : Value} {w : World} (h : Three T g a b c w) (x y z : Value) : Roads g a b c x y z w :=
  have h1 := h.set0 x
  have h2 := h1.set1 y
  have h3 := h2.set2 z
  ⟨h.cells.1, h.frozen 0, h1.cells.2.1, h1.frozen 1, h2.cells.2.2, h2.frozen 2, h3.cells.1, h3.cells.2.1, h3.cells.2.2⟩

/-! ### one matcher -/
/-! ### Get -/
/-- A row of matchers of the call's own. -/
def Own1 (w0 w : World) (u : Value) (l : List M) : Prop := Mine w u l ∧ (∀ g, u.ownBlock = some g → w0.heap.size ≤ g) ∧ New0 w0 w
theorem Own1.step {w0 w w' : World} {u : Value} {l : List M} (h : Own1 w0 w u l) (hu : New0 w w') : Own1 w0 w' u l := ⟨h.1.new hu, h.2.1, h.2.2.trans hu⟩
theorem Own1.app {w0 w w' : World} {u u' : Value} {l m : List M} (h : Own1 w0 w u l) (hown : Mine w' u' m) (hg : w.grownBy w' u.ownBlock) (hb : u'.ownBlock = u.ownBlock ∨ u'.ownBlock = some w.heap.size) : Own1 w0 w' u' m :=
  ⟨hown, fun g hk => by
    rw [hk] at hb
    rcases hb with hb | hb
    · exact h.2.1 g hb.symm
    · have : g = w.heap.size := by simpa using hb
      have := h.2.2.size
      omega, Rw.grown_new (v' := u') hg (fun g hk => h.2.1 g hk) w0 (Nat.le_refl _) h.2.2⟩
end Mt
end Go.Proofs.YtlgjbcmloochiaaGreatDoor
end

/- The program's matchers (layer 11): Is, Encode. -/
section
set_option maxRecDepth 100000
namespace Go.Proofs.YtlgjbcmloochiaaGreatDoor
open Go.RowKit Go.Sort
namespace Mt
open Bit Dsk Ob Dig Lb
set_option linter.unusedVariables false

theorem check_is (w : World) (S : Nat → Prop) (v : Value) (l : List M) (hv : View w S v l) (hb : Bnd l) {z : Nat} (h : chk l = z) :
    Calls Tryz.prog 128 #[v] w fun e w' => e = .returned (.int .i64 (z : Int)) ∧ New0 w w' := by
  subst h; exact check_any w S v l hv hb
theorem So.step' {l : List M} {j : Nat} {s : ByteArray} (h : So l j s) (hj : j < l.length) : So l (j + 1) (s ++ (numA l[j].1.toNat ++ textA l[j].2.1 ++ textA l[j].2.2)) := by
  have := h.step hj
  rwa [ByteArray.append_assoc, ByteArray.append_assoc, ← ByteArray.append_assoc (a := numA _)] at this
set_option maxHeartbeats 3200000 in
theorem enc_any (w : World) (S : Nat → Prop) (v : Value) (l : List M) (hv : View w S v l) (hb : Bnd l) :
    Calls Tryz.prog 162 #[v] w fun e w' => e = encR l ∧ New0 w w' := by
  by_cases hok : chk l = 0
  · have HC := Lib.hid (check_is w S v l hv hb hok)
    obtain ⟨A, c, rfl, -, -⟩ := Rw.View.shape hv
    have h8 := (chk_zero.1 hok).1
    have HN : Hid (∀ w, Calls Tryz.prog 109 #[.int .u64 (l.length : Int)] w fun e w' => e = .returned (.string ⟨(numL l.length).toArray⟩) ∧ Below w.heap.size w w') := Lib.hid fun w => by
      have := Dig.num_any (l.length : Int) (by omega) (by omega) w
      rw [Int.toNat_natCast] at this
      exact this
    replace hv := Lib.hid hv
    replace hok := Lib.hid hok
    clear hb
    go_enter Tryz.func162, Tryz.ntmps162
    go_wp2_with fail
    refine HC.out.mono ?_
    rintro e w1 ⟨rfl, hu1⟩
    replace hu1 := Lib.hid hu1
    clear HC
    go_wp2_with fail
    refine (HN.out _).mono ?_
    rintro e w2 ⟨rfl, hb2⟩
    have hu2 := Lib.hid (hu1.out.trans (newOf hb2))
    clear HN hb2 hu1
    go_wp2_with fail
    go_loopw [5, 19] (fun sv ov wr => ∃ (j : Nat) (s : ByteArray), sv = .string s ∧ ov = .int .i64 (j : Int) ∧ j ≤ l.length ∧ Hid (So l j s) ∧ Hid (New0 w wr)) (fun _ ov _ => l.length - (intOf ov).toNat)
    case atStart => exact ⟨0, _, rfl, rfl, Nat.zero_le _, Lib.hid (So.start l), hu2⟩
    case round =>
      clear hu2
      obtain ⟨j, s, rfl, rfl, hj, hso, hu⟩ := hrel
      by_cases hlt : j < l.length
      · obtain ⟨b, off, rfl, -, -, hcells⟩ := View.cells hv.out (by omega)
        obtain ⟨x0, x1, x2⟩ := hcells j hlt
        have r0 := Lb.New0.cells hu.out x0
        have r1 := Lb.New0.cells hu.out x1
        have r2 := Lb.New0.cells hu.out x2
        have hs1 := hso.out.size hok.out
        have hri := (chk_zero.1 hok.out).2 _ (List.getElem_mem hlt)
        have hsm := right_small hri
        obtain ⟨hk1, hk2, -, -⟩ := right_zero.1 hri
        have hnx := hso.out.step' hlt
        obtain ⟨m, hm⟩ : ∃ m, l[j] = m := ⟨_, rfl⟩
        rw [hm] at r0 r1 r2 hsm hk1 hk2 hnx
        obtain ⟨k, a1, a2⟩ := m
        simp only at r0 r1 r2 hsm hk1 hk2 hnx
        obtain ⟨kn, rfl⟩ : ∃ kn : Nat, k = (kn : Int) := ⟨k.toNat, by omega⟩
        rw [Int.toNat_natCast] at hnx
        have hu3 := Lib.hid (hu.out.alloc (.cells #[.int .i64 (kn : Int), .string a1, .string a2] 190 (0, 0)))
        have hcn := cell_new wr (.cells #[.int .i64 (kn : Int), .string a1, .string a2] 190 (0, 0))
        have k0 : (wr.alloc (.cells #[.int .i64 (kn : Int), .string a1, .string a2] 190 (0, 0))).cell? ⟨wr.heap.size, 0, none⟩ = some (.int .i64 (kn : Int)) := by rw [Lib.cell_of_heap hcn]; rfl
        have k1 : (wr.alloc (.cells #[.int .i64 (kn : Int), .string a1, .string a2] 190 (0, 0))).cell? ⟨wr.heap.size, 1, none⟩ = some (.string a1) := by rw [Lib.cell_of_heap hcn]; rfl
        have k2 : (wr.alloc (.cells #[.int .i64 (kn : Int), .string a1, .string a2] 190 (0, 0))).cell? ⟨wr.heap.size, 2, none⟩ = some (.string a2) := by rw [Lib.cell_of_heap hcn]; rfl
        obtain ⟨wq, hwq⟩ : ∃ wq, wr.alloc (.cells #[.int .i64 (kn : Int), .string a1, .string a2] 190 (0, 0)) = wq := ⟨_, rfl⟩
        rw [hwq] at k0 k1 k2 hu3
        have hz0 := numA_few kn
        have H0 := fun d os => by
          have := Dig.num_any (kn : Int) (by omega) (by omega) (grow (redrawn wq d) os)
          rw [Int.toNat_natCast] at this
          exact this
        have H1 := fun d os => Dig.text_any a1 (by omega) (grow (redrawn wq d) os)
        have H2 := fun d os => Dig.text_any a2 (by omega) (grow (redrawn wq d) os)
        have hz1 := Lb.textA_few (s := a1) (by omega)
        have hz2 := Lb.textA_few (s := a2) (by omega)
        change ∀ d os, Calls _ _ _ _ (fun e w' => e = .returned (.string (numA kn)) ∧ _) at H0
        obtain ⟨t0, ht0⟩ : ∃ t0, numA kn = t0 := ⟨_, rfl⟩
        obtain ⟨t1, ht1⟩ : ∃ t1, textA a1 = t1 := ⟨_, rfl⟩
        obtain ⟨t2, ht2⟩ : ∃ t2, textA a2 = t2 := ⟨_, rfl⟩
        rw [ht0] at hz0 hnx
        simp only [ht0] at H0
        rw [ht1] at H1 hz1 hnx
        rw [ht2] at H2 hz2 hnx
        have hadd0 := fun W => run_string_add_sum (P := Tryz.prog) W t0 t1 (by omega)
        have hadd1 := fun W => run_string_add_sum (P := Tryz.prog) W (t0 ++ t1) t2 (by rw [ByteArray.size_append]; omega)
        have hadd2 := fun W => run_string_add_sum (P := Tryz.prog) W s (t0 ++ t1 ++ t2) (by rw [ByteArray.size_append, ByteArray.size_append]; omega)
        have y0 := fun d os => cell_regrown k0 d os
        have y1 := fun d os => cell_regrown k1 d os
        have y2 := fun d os => cell_regrown k2 d os
        have hcv : IntKind.u64.wrap (kn : Int) = (kn : Int) := by rw [IntKind.wrap_u64]; omega
        replace H0 := Lib.hid H0
        replace H1 := Lib.hid H1
        replace H2 := Lib.hid H2
        replace hnx := Lib.hid hnx
        replace hwq := Lib.hid hwq
        clear hm ht0 ht1 ht2 x0 x1 x2 hso hs1 hsm hz0 hz1 hz2 hri hcells hcn
        go_wp2_with fail
        rw [hwq.out]
        clear hwq hu r0 r1 r2
        refine wp_region_quiet_below (by kernel_rfl) (by kernel_rfl) ?_
        repeat (go_big_quiet_step (first
          | exact Calls.regrown_of (H0.out _ _)
          | exact Calls.regrown_of (H1.out _ _)
          | exact Calls.regrown_of (H2.out _ _)))
        refine wpQuiet_nil ?_
        intro _ hw'
        obtain ⟨⟨dq, osq⟩, hw''⟩ := hw'
        subst hw''
        have hu5 := Lib.hid (hu3.out.trans (newOf (below_regrown wq dq osq)))
        clear hu3 H0 H1 H2 k0 k1 k2 y0 y1 y2 hadd0 hadd1 hadd2 hcv hk1 hk2
        generalize grow (redrawn wq dq) osq = w5 at *
        go_wp2_with fail
        go_roundw
        case rel => exact ⟨j + 1, _, rfl, by go_num, hlt, hnx, hu5⟩
        case measure => simp [intOf]; omega
      · have hR : Hid (Ending.returned (.tuple #[.string s, .int .i64 0]) = encR l) := Lib.hid (by rw [encR_ok hok.out, hso.out.last hlt])
        clear hso
        go_wp2_with fail
        go_ret2
        exact ⟨hR.out, hu.out⟩
  · have hR := Lib.hid (encR_no hok)
    obtain ⟨z, hz⟩ : ∃ z, chk l = z := ⟨_, rfl⟩
    have HC := Lib.hid (check_is w S v l hv hb hz)
    obtain ⟨A, c, rfl, -, -⟩ := Rw.View.shape hv
    rw [hz] at hR hok
    have d : ((z : Int) != 0) = true := by rw [bne_iff_ne]; omega
    clear hv hb hok hz
    go_enter Tryz.func162, Tryz.ntmps162
    go_wp2_with fail
    refine HC.out.mono ?_
    rintro e w1 ⟨rfl, hu1⟩
    replace hu1 := Lib.hid hu1
    clear HC
    go_wp2_with fail
    go_ret2
    exact ⟨hR.out.symm, hu1.out⟩
end Mt
end Go.Proofs.YtlgjbcmloochiaaGreatDoor
end
