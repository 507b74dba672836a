/- Parts: PMt2. -/
import Derived.Test.YtgmnhodajngchaaGreatDoorSPLb2
import Derived.Test.YtgmnhodajngchaaGreatDoorSPMt1
set_option maxRecDepth 100000
set_option linter.unusedVariables false
namespace Go.Proofs.YtgmnhodajngchaaGreatDoor
section
section
open Go.RowKit Go.Sort
namespace Mt
open Bit Dsk Ob Dig Lb
abbrev mBlk (m : M) : Go.Obj := .cells #[.int .i64 m.1, .string m.2.1, .string m.2.2] 174 (0, 0)
def AskF (k : Int) (b : Nat) : Value :=
 if k = 1 then .func (.func 196) #[] #[.pointer (some ⟨b, 0, none⟩)] else if k = 2 then .func (.func 197) #[] #[.pointer (some ⟨b, 0, none⟩)] else
 if k = 3 then .func (.func 198) #[] #[.pointer (some ⟨b, 0, none⟩)] else if k = 4 then .func (.func 200) #[] #[] else Value.nilFunc
set_option maxHeartbeats 1600000 in
theorem asked_any (w : World) (m : M) : Calls Tryz.prog 173 #[mv m] w fun e w' => e = .returned (AskF m.1 w.heap.size) /\ w' = w.alloc (mBlk m) := by
 obtain ⟨k, n, v⟩ := m
 unfold mv mBlk
 simp only
 by_cases h1 : k = 1
 ·subst h1
  have hR : Hid (Value.func (.func 196) #[] #[.pointer (some ⟨w.heap.size, 0, none⟩)] = AskF 1 w.heap.size) := Lib.hid rfl
  go_enter Tryz.func173, Tryz.ntmps173
  go_wp2_with fail
  go_ret
  exact ⟨congrArg Ending.returned hR.out, rfl⟩
 have e1 : (k == 1) = false := by rw [beq_eq_false_iff_ne]; exact h1
 by_cases h2 : k = 2
 ·subst h2
  have hR : Hid (Value.func (.func 197) #[] #[.pointer (some ⟨w.heap.size, 0, none⟩)] = AskF 2 w.heap.size) := Lib.hid rfl
  clear h1 e1
  go_enter Tryz.func173, Tryz.ntmps173
  go_wp2_with fail
  go_ret
  exact ⟨congrArg Ending.returned hR.out, rfl⟩
 have e2 : (k == 2) = false := by rw [beq_eq_false_iff_ne]; exact h2
 by_cases h3 : k = 3
 ·subst h3
  have hR : Hid (Value.func (.func 198) #[] #[.pointer (some ⟨w.heap.size, 0, none⟩)] = AskF 3 w.heap.size) := Lib.hid rfl
  clear h1 e1 h2 e2
  go_enter Tryz.func173, Tryz.ntmps173
  go_wp2_with fail
  go_ret
  exact ⟨congrArg Ending.returned hR.out, rfl⟩
 have e3 : (k == 3) = false := by rw [beq_eq_false_iff_ne]; exact h3
 by_cases h4 : k = 4
 ·subst h4
  have hR : Hid (Value.func (.func 200) #[] #[] = AskF 4 w.heap.size) := Lib.hid rfl
  clear h1 e1 h2 e2 h3 e3
  go_enter Tryz.func173, Tryz.ntmps173
  go_wp2_with fail
  go_ret
  exact ⟨congrArg Ending.returned hR.out, rfl⟩
 have e4 : (k == 4) = false := by rw [beq_eq_false_iff_ne]; exact h4
 have hR : Hid (Value.nilFunc = AskF k w.heap.size) := Lib.hid (by unfold AskF; rw [if_neg h1, if_neg h2, if_neg h3, if_neg h4])
 clear h1 h2 h3 h4
 go_enter Tryz.func173, Tryz.ntmps173
 go_wp2_with fail
 go_ret
 exact ⟨congrArg Ending.returned hR.out, rfl⟩
theorem askF_kind {k : Int} (b : Nat) (h : k < 1 \/ 4 < k) : AskF k b = Value.nilFunc := by
 unfold AskF; rw [if_neg (by omega), if_neg (by omega), if_neg (by omega), if_neg (by omega)]
theorem askF_some {k : Int} (b : Nat) (h : ¬ (k < 1 \/ 4 < k)) : ∃ f c, AskF k b = .func (.func f) #[] c := by
 have : k = 1 \/ k = 2 \/ k = 3 \/ k = 4 := by omega
 rcases this with rfl | rfl | rfl | rfl
 ·exact ⟨_, _, rfl⟩
 ·exact ⟨_, _, rfl⟩
 ·exact ⟨_, _, rfl⟩
 ·exact ⟨_, _, rfl⟩
theorem lb_ok {n v : ByteArray} (h1 : Lb.nm n = true) (h2 : Lb.vl v = true) : Lb.Ok [(n, v)] := ⟨by simp, by simp, ⟨fun p hp => by rw [List.mem_singleton.1 hp]; exact ⟨h1, h2⟩, List.pairwise_singleton _ _⟩⟩
theorem lb_name {n v : ByteArray} (h1 : Lb.nm n = false) : ¬ Lb.Ok [(n, v)] := fun h => by
 have := (h.at 0 (by simp)).1
 simp at this
 rw [h1] at this; cases this
theorem lb_value {n v : ByteArray} (h1 : Lb.vl v = false) : ¬ Lb.Ok [(n, v)] := fun h => by
 have := (h.at 0 (by simp)).2
 simp at this
 rw [h1] at this; cases this
theorem lb_dash : Lb.vl ⟨#[45]⟩ = true := by decide
theorem asked_no (w : World) {k : Int} (n v : ByteArray) (h : k < 1 \/ 4 < k) : Calls Tryz.prog 173 #[.agg #[.int .i64 k, .string n, .string v]] w fun e w' => e = .returned Value.nilFunc /\ w' = w.alloc (.cells #[.int .i64 k, .string n, .string v] 174 (0, 0)) := by
 have := asked_any w (k, n, v)
 rw [askF_kind _ h] at this
 exact this
theorem asked_yes (w : World) {k : Int} (n v : ByteArray) (h : ¬ (k < 1 \/ 4 < k)) : Calls Tryz.prog 173 #[.agg #[.int .i64 k, .string n, .string v]] w fun e w' => ∃ f c, e = .returned (.func (.func f) #[] c) /\ w' = w.alloc (.cells #[.int .i64 k, .string n, .string v] 174 (0, 0)) := by
 obtain ⟨f, c, hf⟩ := askF_some w.heap.size h
 exact (asked_any w (k, n, v)).mono fun e w' ⟨h1, h2⟩ => ⟨f, c, by rw [h1, <- hf], h2⟩
theorem run_noF (W : World) : Sem.run Tryz.prog (binOp BinOp.eql 36 Value.nilFunc Value.nilFunc) W = .ok (.bool true) W := by kernel_rfl
theorem run_isF (W : World) (f : Fn) (c : Array Value) : Sem.run Tryz.prog (binOp BinOp.eql 36 (.func f #[] c) Value.nilFunc) W = .ok (.bool false) W := by kernel_rfl
theorem lbcheck_yes {n v : ByteArray} (h1 : Lb.nm n = true) (h2 : Lb.vl v = true) (hn : n.size <= 9223372036854775807) (hv : v.size <= 9223372036854775807) (w : World) {g : Nat} (h : w.heap[g]? = some (.cells #[.string n, .string v] 89 (0, 0))) :
  Calls Tryz.prog 95 #[.slice (some ⟨g, 0, none⟩) 1 1] w fun e w' => e = .returned (.int .i64 0) /\ New0 w w' :=
 Lb.check_ok w _ _ _ (Lb.view_one h) (fun p hp => by rw [List.mem_singleton.1 hp]; exact ⟨hn, hv⟩) (lb_ok h1 h2)
theorem lbcheck_not {n v : ByteArray} (h1 : Lb.nm n = false \/ Lb.vl v = false) (hn : n.size <= 9223372036854775807) (hv : v.size <= 9223372036854775807) (w : World) {g : Nat} (h : w.heap[g]? = some (.cells #[.string n, .string v] 89 (0, 0))) :
  Calls Tryz.prog 95 #[.slice (some ⟨g, 0, none⟩) 1 1] w fun e w' => e = .returned (.int .i64 16) /\ New0 w w' :=
 Lb.check_no w _ _ _ (Lb.view_one h) (fun p hp => by rw [List.mem_singleton.1 hp]; exact ⟨hn, hv⟩) (h1.elim lb_name lb_value)
theorem new4 (w : World) (a b c d : Go.Obj) : ((((w.alloc a).alloc b).alloc c).alloc d).heap[w.heap.size + 1 + 1 + 1]? = some d := by
 have := cell_new (((w.alloc a).alloc b).alloc c) d
 simpa using this
theorem new4u (w : World) (a b c d : Go.Obj) : New0 w ((((w.alloc a).alloc b).alloc c).alloc d) := ((((Upon.refl _ w).alloc a).alloc b).alloc c).alloc d
set_option maxHeartbeats 3200000 in
theorem checkone_any (w : World) (m : M) (hb : Bnd1 m) :
  Calls Tryz.prog 185 #[mv m] w fun e w' => e = .returned (.int .i64 (right m : Int)) /\ New0 w w' := by
 obtain ⟨k, n, v⟩ := m
 obtain ⟨-, -, hn, hv⟩ := hb
 simp only at hn hv
 unfold mv
 have hq0 := fun W => run_noF W
 have hq1 := fun W f c => run_isF W f c
 have hU := Lib.hid ((Upon.refl (fun _ => False) w).alloc (.cells #[.int .i64 k, .string n, .string v] 174 (0, 0)))
 have hU2 := Lib.hid (hU.out.alloc (.cells #[.int .i64 k, .string n, .string v] 174 (0, 0)))
 by_cases ck : k < 1 \/ 4 < k
 ·have hR : Hid ((5 : Int) = (right (k, n, v) : Int)) := Lib.hid (by rw [right_kind ck]; rfl)
  have HA := Lib.hid (fun w => asked_no w n v ck)
  clear ck
  go_enter Tryz.func185, Tryz.ntmps185
  go_wp2_with fail
  refine (HA.out _).mono ?_
  rintro e w2 ⟨rfl, rfl⟩
  clear HA
  go_wp2_with fail
  go_ret
  exact ⟨Lb.ret_i hR.out, hU2.out⟩
 have HA := Lib.hid (fun w => asked_yes w n v ck)
 by_cases h0 : v.size = 0
 ·have d0 := emp_yes h0
  cases hnm : Lb.nm n with
  | true =>
   have hR : Hid ((0 : Int) = (right (k, n, v) : Int)) := Lib.hid (by rw [right_emp ck hnm h0]; rfl)
   have hL := Lib.hid (fun w g h => lbcheck_yes hnm lb_dash hn (by decide) w (g := g) h)
   clear ck hnm
   go_enter Tryz.func185, Tryz.ntmps185
   go_wp2_with fail
   refine (HA.out _).mono ?_
   rintro e w2 ⟨f, c, rfl, rfl⟩
   clear HA
   go_wp2_with fail
   all_goals
    refine (hL.out _ _ (new4 w _ _ _ _)).mono ?_
    rintro e w3 ⟨rfl, hu3⟩
    have hu4 := Lib.hid ((new4u w _ _ _ _).trans hu3)
    clear hL hu3
    go_wp2_with fail
    go_ret
    exact ⟨Lb.ret_i hR.out, hu4.out⟩
  | false =>
   have hR : Hid ((3 : Int) = (right (k, n, v) : Int)) := Lib.hid (by rw [right_field ck (.inl hnm)]; rfl)
   have hL := Lib.hid (fun w g h => lbcheck_not (v := ⟨#[45]⟩) (.inl hnm) hn (by decide) w (g := g) h)
   clear ck hnm
   go_enter Tryz.func185, Tryz.ntmps185
   go_wp2_with fail
   refine (HA.out _).mono ?_
   rintro e w2 ⟨f, c, rfl, rfl⟩
   clear HA
   go_wp2_with fail
   all_goals
    refine (hL.out _ _ (new4 w _ _ _ _)).mono ?_
    rintro e w3 ⟨rfl, hu3⟩
    have hu4 := Lib.hid ((new4u w _ _ _ _).trans hu3)
    clear hL hu3
    go_wp2_with fail
    go_ret
    exact ⟨Lb.ret_i hR.out, hu4.out⟩
 have d0 := emp_no h0
 by_cases h4 : k = 4
 ·have hR : Hid ((3 : Int) = (right (k, n, v) : Int)) := Lib.hid (by rw [right_field ck (.inr ⟨h0, .inr h4⟩)]; rfl)
  subst h4
  clear ck
  go_enter Tryz.func185, Tryz.ntmps185
  go_wp2_with fail
  refine (HA.out _).mono ?_
  rintro e w2 ⟨f, c, rfl, rfl⟩
  clear HA
  go_wp2_with fail
  go_ret
  exact ⟨Lb.ret_i hR.out, hU2.out⟩
 have e4 : (k == 4) = false := by rw [beq_eq_false_iff_ne]; exact h4
 by_cases hg : Lb.nm n = true /\ Lb.vl v = true
 ·have hR : Hid ((0 : Int) = (right (k, n, v) : Int)) := Lib.hid (by rw [right_val ck hg.1 hg.2 h4]; rfl)
  have hL := Lib.hid (fun w g h => lbcheck_yes hg.1 hg.2 hn hv w (g := g) h)
  clear ck hg h4
  go_enter Tryz.func185, Tryz.ntmps185
  go_wp2_with fail
  refine (HA.out _).mono ?_
  rintro e w2 ⟨f, c, rfl, rfl⟩
  clear HA
  go_wp2_with fail
  refine (hL.out _ _ (new4 w _ _ _ _)).mono ?_
  rintro e w3 ⟨rfl, hu3⟩
  have hu4 := Lib.hid ((new4u w _ _ _ _).trans hu3)
  clear hL hu3
  go_wp2_with fail
  go_ret
  exact ⟨Lb.ret_i hR.out, hu4.out⟩
 ·have hg' : Lb.nm n = false \/ Lb.vl v = false := by
   cases h1 : Lb.nm n with
   | false => exact .inl rfl
   | true =>
    cases h2 : Lb.vl v with
    | false => exact .inr rfl
    | true => exact absurd ⟨h1, h2⟩ hg
  have hR : Hid ((3 : Int) = (right (k, n, v) : Int)) := Lib.hid (by rw [right_field ck (hg'.imp id fun h => ⟨h0, .inl h⟩)]; rfl)
  have hL := Lib.hid (fun w g h => lbcheck_not hg' hn hv w (g := g) h)
  clear ck hg hg' h4
  go_enter Tryz.func185, Tryz.ntmps185
  go_wp2_with fail
  refine (HA.out _).mono ?_
  rintro e w2 ⟨f, c, rfl, rfl⟩
  clear HA
  go_wp2_with fail
  refine (hL.out _ _ (new4 w _ _ _ _)).mono ?_
  rintro e w3 ⟨rfl, hu3⟩
  have hu4 := Lib.hid ((new4u w _ _ _ _).trans hu3)
  clear hL hu3
  go_wp2_with fail
  go_ret
  exact ⟨Lb.ret_i hR.out, hu4.out⟩
set_option maxHeartbeats 1600000 in
theorem check_any (w : World) (S : Nat -> Prop) (v : Value) (l : List M) (hv : View w S v l) (hb : Bnd l) :
  Calls Tryz.prog 148 #[v] w fun e w' => e = .returned (.int .i64 (chk l : Int)) /\ New0 w w' := by
 obtain ⟨A, c, rfl, -, -⟩ := Rw.View.shape hv
 replace hv := Lib.hid hv
 replace hb := Lib.hid hb
 by_cases h8 : 8 < l.length
 ·have hR : Hid ((8 : Int) = (chk l : Int)) := Lib.hid (by rw [chk_long h8]; rfl)
  have d2 : (8 : Int) < (l.length : Int) := by omega
  go_enter Tryz.func148, Tryz.ntmps148
  go_wp2_with fail
  go_ret
  exact ⟨Lb.ret_i hR.out, Upon.refl _ _⟩
 have d2 : ¬ (8 : Int) < (l.length : Int) := by omega
 have hf : Hid (first l = chk l) := Lib.hid (chk_few h8).symm
 obtain ⟨q, hq⟩ : ∃ q, chk l = q := ⟨_, rfl⟩
 rw [hq] at hf ⊢
 clear hq
 go_enter Tryz.func148, Tryz.ntmps148
 go_wp2_with fail
 go_loopw [11] (fun ov wr => ∃ j : Nat, ov = .int .i64 (j : Int) /\ j <= l.length /\ Hid (first (l.drop j) = q) /\ Hid (New0 w wr)) (fun ov _ => l.length - (intOf ov).toNat)
 case atStart => exact ⟨0, rfl, Nat.zero_le _, hf, Lib.hid (Upon.refl _ _)⟩
 case round =>
  clear hf
  obtain ⟨j, rfl, hj, hg, hu⟩ := hrel
  by_cases hlt : j < l.length
  ·obtain ⟨b, off, rfl, -, -, hcells⟩ := View.cells hv.out (by omega)
   obtain ⟨x0, x1, x2⟩ := hcells j hlt
   have r0 := Lb.New0.cells hu.out x0
   have r1 := Lb.New0.cells hu.out x1
   have r2 := Lb.New0.cells hu.out x2
   have HR := Lib.hid (fun w => checkone_any w l[j] (hb.out _ (List.getElem_mem hlt)))
   have hbad := Lib.hid (fun h => (first_bad hlt h).symm.trans hg.out)
   have hgood := Lib.hid (fun h => (first_good hlt h).symm.trans hg.out)
   obtain ⟨m, hm⟩ : ∃ m, l[j] = m := ⟨_, rfl⟩
   rw [hm] at r0 r1 r2 HR hbad hgood
   clear hcells x0 x1 x2 hm hg
   obtain ⟨a, b', c'⟩ := m
   have hua := Lib.hid (hu.out.alloc (.cells #[.int .i64 a, .string b', .string c'] 174 (0, 0)))
   unfold mv at HR
   by_cases he : right (a, b', c') = 0
   ·have hG := Lib.hid (hgood.out he)
    rw [he] at HR
    clear hbad hgood he
    go_wp2_with fail
    refine (HR.out _).mono ?_
    rintro e w2 ⟨rfl, hu2⟩
    have hu3 := Lib.hid (hua.out.trans hu2)
    clear HR hu hu2 hua r0 r1 r2
    go_wp2_with fail
    go_roundw
    case rel => exact ⟨j + 1, by go_num, hlt, hG, hu3⟩
    case measure => simp [intOf]; omega
   ·have hG := Lib.hid (hbad.out he)
    obtain ⟨z, hz⟩ : ∃ z, right (a, b', c') = z := ⟨_, rfl⟩
    rw [hz] at HR hG he
    have d : ((z : Int) != 0) = true := by rw [bne_iff_ne]; omega
    have hE : Hid ((z : Int) = (q : Int)) := Lib.hid (by rw [hG.out])
    clear hbad hgood he hz hG
    go_wp2_with fail
    refine (HR.out _).mono ?_
    rintro e w2 ⟨rfl, hu2⟩
    have hu3 := Lib.hid (hua.out.trans hu2)
    clear HR hu hu2 hua r0 r1 r2
    go_wp2_with fail
    go_ret
    exact ⟨Lb.ret_i hE.out, hu3.out⟩
  ·have hE : Hid ((0 : Int) = (q : Int)) := Lib.hid (by have := hg.out; rw [first_end hlt] at this; rw [<- this]; rfl)
   clear hg hv hb
   go_wp2_with fail
   go_ret
   exact ⟨Lb.ret_i hE.out, hu.out⟩
end Mt
end
section
open Go.RowKit Go.Sort
namespace Mt
open Bit Dsk Ob Dig Lb
def Three (T : TypeId) (g : Nat) (a b c : Value) (w : World) : Prop := w.heap[g]? = some (.cells #[a, b, c] T (0, 0))
theorem Three.new {T : TypeId} {g : Nat} {a b c : Value} {w w' : World} (h : Three T g a b c w) (hu : New0 w w') : Three T g a b c w' :=
 (hu.block g (Array.getElem?_eq_some_iff.1 h).1 fun f => f).trans h
theorem Three.cells {T : TypeId} {g : Nat} {a b c : Value} {w : World} (h : Three T g a b c w) : w.cell? ⟨g, 0, none⟩ = some a /\ w.cell? ⟨g, 1, none⟩ = some b /\ w.cell? ⟨g, 2, none⟩ = some c :=
 ⟨by rw [Lib.cell_of_heap h]; rfl, by rw [Lib.cell_of_heap h]; rfl, by rw [Lib.cell_of_heap h]; rfl⟩
theorem Three.frozen {T : TypeId} {g : Nat} {a b c : Value} {w : World} (h : Three T g a b c w) (i : Nat) : w.frozen? ⟨g, i, none⟩ = false := by
 unfold Three at h
 simp [World.frozen?, h]
theorem Three.set0 {T : TypeId} {g : Nat} {a b c : Value} {w : World} (h : Three T g a b c w) (x : Value) : Three T g x b c (w.setCell ⟨g, 0, none⟩ x) := by unfold Three at *; simp [World.setCell, Array.getElem?_modify, h]
theorem Three.set1 {T : TypeId} {g : Nat} {a b c : Value} {w : World} (h : Three T g a b c w) (x : Value) : Three T g a x c (w.setCell ⟨g, 1, none⟩ x) := by unfold Three at *; simp [World.setCell, Array.getElem?_modify, h]
theorem Three.set2 {T : TypeId} {g : Nat} {a b c : Value} {w : World} (h : Three T g a b c w) (x : Value) : Three T g a b x (w.setCell ⟨g, 2, none⟩ x) := by unfold Three at *; simp [World.setCell, Array.getElem?_modify, h]
structure Roads (g : Nat) (a b c x y z : Value) (w : World) : Prop where
 c0 : w.cell? ⟨g, 0, none⟩ = some a
 f0 : w.frozen? ⟨g, 0, none⟩ = false
 c1 : (w.setCell ⟨g, 0, none⟩ x).cell? ⟨g, 1, none⟩ = some b
 f1 : (w.setCell ⟨g, 0, none⟩ x).frozen? ⟨g, 1, none⟩ = false
 c2 : ((w.setCell ⟨g, 0, none⟩ x).setCell ⟨g, 1, none⟩ y).cell? ⟨g, 2, none⟩ = some c
 f2 : ((w.setCell ⟨g, 0, none⟩ x).setCell ⟨g, 1, none⟩ y).frozen? ⟨g, 2, none⟩ = false
 e0 : (((w.setCell ⟨g, 0, none⟩ x).setCell ⟨g, 1, none⟩ y).setCell ⟨g, 2, none⟩ z).cell? ⟨g, 0, none⟩ = some x
 e1 : (((w.setCell ⟨g, 0, none⟩ x).setCell ⟨g, 1, none⟩ y).setCell ⟨g, 2, none⟩ z).cell? ⟨g, 1, none⟩ = some y
 e2 : (((w.setCell ⟨g, 0, none⟩ x).setCell ⟨g, 1, none⟩ y).setCell ⟨g, 2, none⟩ z).cell? ⟨g, 2, none⟩ = some z
theorem Three.roads {T : TypeId} {g : Nat} {a b c : Value} {w : World} (h : Three T g a b c w) (x y z : Value) : Roads g a b c x y z w :=
 have h1 := h.set0 x
 have h2 := h1.set1 y
 have h3 := h2.set2 z
 ⟨h.cells.1, h.frozen 0, h1.cells.2.1, h1.frozen 1, h2.cells.2.2, h2.frozen 2, h3.cells.1, h3.cells.2.1, h3.cells.2.2⟩
theorem upon_set3 {w0 w : World} {g : Nat} (h : New0 w0 w) (hg : w0.heap.size <= g) (x y z : Value) : New0 w0 (((w.setCell ⟨g, 0, none⟩ x).setCell ⟨g, 1, none⟩ y).setCell ⟨g, 2, none⟩ z) :=
 Upon.setCell (p := ⟨g, 2, none⟩) (Upon.setCell (p := ⟨g, 1, none⟩) (Upon.setCell (p := ⟨g, 0, none⟩) h (.inr hg) _) (.inr hg) _) (.inr hg) _
theorem text_at (s : ByteArray) (p : Nat) (hp : p <= s.size) (hs : s.size <= 4611686018427387904) (m : Int) (hm : m <= 9223372036854775807) : ∃ (a : ByteArray) (q x : Nat), Lb.txt m (s.data.toList.drop p) = (a, s.data.toList.drop (p + q), x) /\ p + q <= s.size /\ a.size <= 9223372036854775807 /\
  ∀ w, Calls Tryz.prog 99 #[.string (s.extract p s.size), .int .i64 m] w fun e w' => e = .returned (.tuple #[.string a, .int .i64 (q : Int), .int .i64 (x : Int)]) /\ New0 w w' := by
 obtain ⟨r, hr⟩ : ∃ r, s.extract p s.size = r := ⟨_, rfl⟩
 have hrs : r.size = s.size - p := by rw [<- hr, ByteArray.size_extract]; omega
 obtain ⟨n, k, x, hg⟩ : ∃ n k x, gotT r.data.toList m = (n, k, x) := ⟨_, _, _, rfl⟩
 have ht := txt_is hg
 have hkl := gotT_le hg
 rw [Array.length_toList, ByteArray.size_data] at hkl
 have hl : (r.extract (k + n) r.size).data.toList = s.data.toList.drop (p + (k + n)) := by rw [drop_list, <- hr, drop_list, List.drop_drop]
 have hl0 : r.data.toList = s.data.toList.drop p := by rw [<- hr, drop_list]
 refine ⟨r.extract k (k + n), k + n, x, ?_, by omega, by rw [ByteArray.size_extract]; omega, fun w => ?_⟩
 ·rw [<- hl0, ht, hl]
 ·rw [hr]
  exact (gettext_is (s := r) (by omega) hm hg w).mono fun e w' ⟨h1, h2⟩ => ⟨h1, newOf h2⟩
def OneE (w : World) (s : ByteArray) (e : Ending) (w' : World) : Prop :=
 (∃ (m : M) (k x : Nat), e = .returned (.tuple #[mv m, .int .i64 (k : Int), .int .i64 (x : Int)]) /\ Bnd1 m /\ ((x ≠ 0 /\ (one s.data.toList).2.2 = x) \/ (x = 0 /\ k <= s.size /\ one s.data.toList = (m, s.data.toList.drop k, 0)))) /\ New0 w w'
def m0 : M := (0, ⟨#[]⟩, ⟨#[]⟩)
theorem m0_bnd : Bnd1 m0 := ⟨by decide, by decide, by decide, by decide⟩
theorem OneE.no {w w' : World} {s : ByteArray} {x : Nat} {z : Int} (h : (one s.data.toList).2.2 = x) (hx : x ≠ 0) (hz : z = x) (hu : New0 w w') : OneE w s (.returned (.tuple #[.agg #[.int .i64 0, .string ⟨#[]⟩, .string ⟨#[]⟩], .int .i64 0, .int .i64 z])) w' := by
 subst hz
 exact ⟨⟨m0, 0, x, rfl, m0_bnd, .inl ⟨hx, h⟩⟩, hu⟩
set_option maxHeartbeats 3200000 in
theorem getone_any (s : ByteArray) (hs : s.size <= 4611686018427387904) (w : World) :
  Calls Tryz.prog 230 #[.string s] w (OneE w s) := by
 obtain ⟨n, k, x, hg⟩ : ∃ n k x, gotN s.data.toList = (n, k, x) := ⟨_, _, _, rfl⟩
 have hks : k <= s.size := by
  have := (gotN_lt s.data.toList).2.2.1
  rw [hg] at this
  simpa using this
 have hn64 : n < 18446744073709551616 := by
  have := (gotN_lt s.data.toList).1
  rw [hg] at this
  exact this
 have HG : Hid (∀ w, Calls Tryz.prog 100 #[.string s] w fun e w' => e = .returned (.tuple #[.int .u64 (n : Int), .int .i64 (k : Int), .int .i64 (x : Int)]) /\ New0 w w') := Lib.hid fun w => by
  have := Dig.get_any s (by omega) w
  rw [hg] at this
  exact this.mono fun e w' ⟨h1, h2⟩ => ⟨h1, newOf h2⟩
 have hb0 : Hid (Three 174 w.heap.size (.int .i64 0) (.string ⟨#[]⟩) (.string ⟨#[]⟩) (w.alloc (.cells #[.int .i64 0, .string ⟨#[]⟩, .string ⟨#[]⟩] 174 (0, 0)))) := Lib.hid (cell_new w _)
 have hNw := Lib.hid ((Upon.refl (fun _ => False) w).alloc (.cells #[.int .i64 0, .string ⟨#[]⟩, .string ⟨#[]⟩] 174 (0, 0)))
 by_cases hx : x = 0
 ·subst hx
  by_cases hn : 4 < n
  ·have hR := Lib.hid (one_kind hg hn)
   clear hg
   go_enter Tryz.func230, Tryz.ntmps230
   go_wp2_with fail
   refine (HG.out _).mono ?_
   rintro e w2 ⟨rfl, hu2⟩
   clear HG
   obtain ⟨c0, f0, c1, f1, c2, f2, e0, e1, e2⟩ := (hb0.out.new hu2).roads (.int .i64 0) (.string ⟨#[]⟩) (.string ⟨#[]⟩)
   have hN := Lib.hid (upon_set3 (hNw.out.trans hu2) (Nat.le_refl _) (.int .i64 0) (.string ⟨#[]⟩) (.string ⟨#[]⟩))
   clear hb0 hNw hu2
   go_wp2_with fail
   refine bodyPost_ret (v := .tuple #[.agg #[.int .i64 0, .string ⟨#[]⟩, .string ⟨#[]⟩], .int .i64 0, .int .i64 5]) (by simp [results, Tryz.results230, go_sem, e0, e1, e2]) rfl ?_
   exact OneE.no hR.out (by decide) rfl hN.out
  ·obtain ⟨a, q, x1, t1, hq, ha, HT⟩ := text_at s k hks hs 32 (by decide)
   replace HT := Lib.hid HT
   by_cases hx1 : x1 = 0
   ·subst hx1
    obtain ⟨b, q', x2, t2, hq', hbz, HT2⟩ := text_at s (k + q) hq hs 64 (by decide)
    replace HT2 := Lib.hid HT2
    have hsum : wrap64 ((k : Int) + (q : Int)) = ((k + q : Nat) : Int) := by unfold wrap64; omega
    by_cases hx2 : x2 = 0
    ·subst hx2
     have hR : Hid (one s.data.toList = (((n : Int), a, b), s.data.toList.drop (k + q + q'), 0)) := Lib.hid (one_ok hg hn t1 t2)
     have hsum2 : wrap64 (((k + q : Nat) : Int) + (q' : Int)) = ((k + q + q' : Nat) : Int) := by unfold wrap64; omega
     have hcv : IntKind.i64.wrap (n : Int) = (n : Int) := by rw [IntKind.wrap_i64]; omega
     have hnk : (n : Int) <= 4 := by omega
     clear hg t1 t2 hn64
     go_enter Tryz.func230, Tryz.ntmps230
     go_wp2_with fail
     refine (HG.out _).mono ?_
     rintro e w2 ⟨rfl, hu2⟩
     have hu2' := Lib.hid (hNw.out.trans hu2)
     replace hb0 := Lib.hid (hb0.out.new hu2)
     clear HG hNw hu2
     go_wp2_with fail
     refine (HT.out _).mono ?_
     rintro e w3 ⟨rfl, hu3⟩
     replace hu2' := Lib.hid (hu2'.out.trans hu3)
     replace hb0 := Lib.hid (hb0.out.new hu3)
     clear HT hu3
     go_wp2_with fail
     refine (HT2.out _).mono ?_
     rintro e w4 ⟨rfl, hu4⟩
     obtain ⟨c0, f0, c1, f1, c2, f2, e0, e1, e2⟩ := (hb0.out.new hu4).roads (.int .i64 (n : Int)) (.string a) (.string b)
     have hN := Lib.hid (upon_set3 (hu2'.out.trans hu4) (Nat.le_refl _) (.int .i64 (n : Int)) (.string a) (.string b))
     clear hb0 hu2' hu4 HT2
     go_wp2_with fail
     refine bodyPost_ret (v := .tuple #[.agg #[.int .i64 (n : Int), .string a, .string b], .int .i64 ((k + q + q' : Nat) : Int), .int .i64 0]) (by simp [results, Tryz.results230, go_sem, e0, e1, e2]) rfl ?_
     exact ⟨⟨((n : Int), a, b), k + q + q', 0, rfl, ⟨by simp only; omega, by simp only; omega, ha, hbz⟩, .inr ⟨rfl, hq', hR.out⟩⟩, hN.out⟩
    ·have hR := Lib.hid (one_value hg hn t1 t2 hx2)
     have d : ((x2 : Int) != 0) = true := by rw [bne_iff_ne]; omega
     replace hx2 := Lib.hid hx2
     have hnk : (n : Int) <= 4 := by omega
     clear hg t1 t2 hn64 hn
     go_enter Tryz.func230, Tryz.ntmps230
     go_wp2_with fail
     refine (HG.out _).mono ?_
     rintro e w2 ⟨rfl, hu2⟩
     have hu2' := Lib.hid (hNw.out.trans hu2)
     replace hb0 := Lib.hid (hb0.out.new hu2)
     clear HG hNw hu2
     go_wp2_with fail
     refine (HT.out _).mono ?_
     rintro e w3 ⟨rfl, hu3⟩
     replace hu2' := Lib.hid (hu2'.out.trans hu3)
     replace hb0 := Lib.hid (hb0.out.new hu3)
     clear HT hu3
     go_wp2_with fail
     refine (HT2.out _).mono ?_
     rintro e w4 ⟨rfl, hu4⟩
     obtain ⟨c0, f0, c1, f1, c2, f2, e0, e1, e2⟩ := (hb0.out.new hu4).roads (.int .i64 0) (.string ⟨#[]⟩) (.string ⟨#[]⟩)
     have hN := Lib.hid (upon_set3 (hu2'.out.trans hu4) (Nat.le_refl _) (.int .i64 0) (.string ⟨#[]⟩) (.string ⟨#[]⟩))
     clear hb0 hu2' hu4 HT2
     go_wp2_with fail
     refine bodyPost_ret (v := .tuple #[.agg #[.int .i64 0, .string ⟨#[]⟩, .string ⟨#[]⟩], .int .i64 0, .int .i64 (x2 : Int)]) (by simp [results, Tryz.results230, go_sem, e0, e1, e2]) rfl ?_
     exact OneE.no hR.out hx2.out rfl hN.out
   ·have hR := Lib.hid (one_name hg hn t1 hx1)
    have d : ((x1 : Int) != 0) = true := by rw [bne_iff_ne]; omega
    replace hx1 := Lib.hid hx1
    have hnk : (n : Int) <= 4 := by omega
    clear hg t1 hn64 hn
    go_enter Tryz.func230, Tryz.ntmps230
    go_wp2_with fail
    refine (HG.out _).mono ?_
    rintro e w2 ⟨rfl, hu2⟩
    have hu2' := Lib.hid (hNw.out.trans hu2)
    replace hb0 := Lib.hid (hb0.out.new hu2)
    clear HG hNw hu2
    go_wp2_with fail
    refine (HT.out _).mono ?_
    rintro e w3 ⟨rfl, hu3⟩
    obtain ⟨c0, f0, c1, f1, c2, f2, e0, e1, e2⟩ := (hb0.out.new hu3).roads (.int .i64 0) (.string ⟨#[]⟩) (.string ⟨#[]⟩)
    have hN := Lib.hid (upon_set3 (hu2'.out.trans hu3) (Nat.le_refl _) (.int .i64 0) (.string ⟨#[]⟩) (.string ⟨#[]⟩))
    clear hb0 hu2' hu3 HT
    go_wp2_with fail
    refine bodyPost_ret (v := .tuple #[.agg #[.int .i64 0, .string ⟨#[]⟩, .string ⟨#[]⟩], .int .i64 0, .int .i64 (x1 : Int)]) (by simp [results, Tryz.results230, go_sem, e0, e1, e2]) rfl ?_
    exact OneE.no hR.out hx1.out rfl hN.out
 ·have hR := Lib.hid (one_num hg hx)
  have d : ((x : Int) != 0) = true := by rw [bne_iff_ne]; omega
  replace hx := Lib.hid hx
  clear hg
  go_enter Tryz.func230, Tryz.ntmps230
  go_wp2_with fail
  refine (HG.out _).mono ?_
  rintro e w2 ⟨rfl, hu2⟩
  clear HG
  obtain ⟨c0, f0, c1, f1, c2, f2, e0, e1, e2⟩ := (hb0.out.new hu2).roads (.int .i64 0) (.string ⟨#[]⟩) (.string ⟨#[]⟩)
  have hN := Lib.hid (upon_set3 (hNw.out.trans hu2) (Nat.le_refl _) (.int .i64 0) (.string ⟨#[]⟩) (.string ⟨#[]⟩))
  clear hb0 hNw hu2
  go_wp2_with fail
  refine bodyPost_ret (v := .tuple #[.agg #[.int .i64 0, .string ⟨#[]⟩, .string ⟨#[]⟩], .int .i64 0, .int .i64 (x : Int)]) (by simp [results, Tryz.results230, go_sem, e0, e1, e2]) rfl ?_
  exact OneE.no hR.out hx.out rfl hN.out
theorem getone_at (s : ByteArray) (p : Nat) (hp : p <= s.size) (hs : s.size <= 4611686018427387904) (w : World) :
  Calls Tryz.prog 230 #[.string (s.extract p s.size)] w fun e w' => (∃ (k : Int) (a b : ByteArray) (q x : Nat), e = .returned (.tuple #[.agg #[.int .i64 k, .string a, .string b], .int .i64 (q : Int), .int .i64 (x : Int)]) /\ Bnd1 (k, a, b) /\
   ((x ≠ 0 /\ (one (s.data.toList.drop p)).2.2 = x) \/ (x = 0 /\ p + q <= s.size /\ one (s.data.toList.drop p) = ((k, a, b), s.data.toList.drop (p + q), 0)))) /\ New0 w w' := by
 have hrs : (s.extract p s.size).size = s.size - p := by rw [ByteArray.size_extract]; omega
 refine (getone_any (s.extract p s.size) (by omega) w).mono ?_
 rintro e w' ⟨⟨⟨k, a, b⟩, q, x, he, hb, h⟩, hu⟩
 rw [drop_list] at h
 refine ⟨⟨k, a, b, q, x, he, hb, ?_⟩, hu⟩
 rcases h with h | ⟨h1, h2, h3⟩
 ·exact .inl h
 ·refine .inr ⟨h1, by omega, ?_⟩
  rw [h3, List.drop_drop]
def Own1 (w0 w : World) (u : Value) (l : List M) : Prop := Mine w u l /\ (∀ g, u.ownBlock = some g -> w0.heap.size <= g) /\ New0 w0 w
theorem Own1.step {w0 w w' : World} {u : Value} {l : List M} (h : Own1 w0 w u l) (hu : New0 w w') : Own1 w0 w' u l := ⟨h.1.new hu, h.2.1, h.2.2.trans hu⟩
theorem Own1.app {w0 w w' : World} {u u' : Value} {l m : List M} (h : Own1 w0 w u l) (hown : Mine w' u' m) (hg : w.grownBy w' u.ownBlock) (hb : u'.ownBlock = u.ownBlock \/ u'.ownBlock = some w.heap.size) : Own1 w0 w' u' m :=
 ⟨hown, fun g hk => by
  rw [hk] at hb
  rcases hb with hb | hb
  ·exact h.2.1 g hb.symm
  ·have : g = w.heap.size := by simpa using hb
   have := h.2.2.size
   omega, Rw.grown_new (v' := u') hg (fun g hk => h.2.1 g hk) w0 (Nat.le_refl _) h.2.2⟩
theorem view_twice (w : World) (o : Go.Obj) (k : Int) (a b : ByteArray) : View ((w.alloc o).alloc (.cells #[.int .i64 k, .string a, .string b] 174 (0, 0))) All (.slice (some ⟨w.heap.size + 1, 0, none⟩) 1 1) [(k, a, b)] := by
 have h := view_one (cell_new (w.alloc o) (.cells #[.int .i64 k, .string a, .string b] 174 (0, 0)))
 have e : (w.alloc o).heap.size = w.heap.size + 1 := by simp
 rw [e] at h
 exact h
def GetN (w : World) (sl : List UInt8) (e : Ending) (w' : World) : Prop := ∃ v, e = .returned (.tuple #[v, .int .i64 ((got sl).2.1 : Int), .int .i64 ((got sl).2.2 : Int)]) /\ View w' (Lb.Nw w) v (got sl).1 /\ New0 w w'
theorem GetN.no {w w' : World} {sl : List UInt8} {x : Nat} {z : Int} (h : got sl = ([], 0, x)) (hz : z = x) (hu : New0 w w') : GetN w sl (.returned (.tuple #[.slice none 0 0, .int .i64 0, .int .i64 z])) w' := by
 subst hz
 unfold GetN
 rw [h]
 exact ⟨_, rfl, Rw.View.noth _ _ _, hu⟩
theorem GetN.yes {w w' : World} {sl : List UInt8} {l : List M} {v : Value} {k : Nat} {z : Int} (h : got sl = (l, k, 0)) (hz : z = k) (hv : View w' (Lb.Nw w) v l) (hu : New0 w w') : GetN w sl (.returned (.tuple #[v, .int .i64 z, .int .i64 0])) w' := by
 subst hz
 unfold GetN
 rw [h]
 exact ⟨v, rfl, hv, hu⟩
set_option maxHeartbeats 6400000 in
theorem gete_new (w : World) (s : ByteArray) (hs : s.size <= 140737488355328) :
  Calls Tryz.prog 216 #[.string s] w fun e w' => GetN w s.data.toList e w' := by
 obtain ⟨n, k, x, hg⟩ : ∃ n k x, gotN s.data.toList = (n, k, x) := ⟨_, _, _, rfl⟩
 have hks : k <= s.size := by
  have := (gotN_lt s.data.toList).2.2.1
  rw [hg] at this
  simpa using this
 have hn64 : n < 18446744073709551616 := by
  have := (gotN_lt s.data.toList).1
  rw [hg] at this
  exact this
 have HG : Hid (∀ w, Calls Tryz.prog 100 #[.string s] w fun e w' => e = .returned (.tuple #[.int .u64 (n : Int), .int .i64 (k : Int), .int .i64 (x : Int)]) /\ New0 w w') := Lib.hid fun w => by
  have := Dig.get_any s (by omega) w
  rw [hg] at this
  exact this.mono fun e w' ⟨h1, h2⟩ => ⟨h1, newOf h2⟩
 have HP := Lib.hid (fun p hp w => getone_at s p hp (by omega) w)
 obtain ⟨sl, hsl⟩ : ∃ sl, s.data.toList = sl := ⟨_, rfl⟩
 have hsn : sl.length = s.size := by rw [<- hsl]; simp
 rw [hsl] at hg HP ⊢
 clear hsl
 by_cases hx : x = 0
 ·subst hx
  by_cases hn : 8 < n
  ·have hD := Lib.hid (got_no (by rw [tk_long hg hn]) (by decide : (8 : Nat) ≠ 0))
   clear hg HP
   go_enter Tryz.func216, Tryz.ntmps216
   go_wp2_with fail
   refine (HG.out _).mono ?_
   rintro e w2 ⟨rfl, hu2⟩
   replace hu2 := Lib.hid hu2
   clear HG
   go_wp2_with fail
   go_ret3
   exact GetN.no hD.out rfl hu2.out
  ·have hn8 : n <= 8 := by omega
   have hbad := Lib.hid (fun e h he => got_no (tk_bad (e := e) hg hn h he ▸ rfl : (tk sl).2.2 = e) he)
   have hchk := Lib.hid (fun l r h hl => got_no (by rw [tk_chk (l := l) (r := r) hg hn h hl]) hl)
   have hgood := Lib.hid (fun l r h hl => got_ok (tk_ok (l := l) (r := r) hg hn h hl))
   obtain ⟨i0, z0, hi, hz0, hz1, hz2, -⟩ := typM.info
   replace hz1 : i0.size = 3 := hz1
   clear hg hn
   go_enter Tryz.func216, Tryz.ntmps216
   go_wp2_with fail
   refine (HG.out _).mono ?_
   rintro e w3 ⟨rfl, hu2⟩
   replace hu2 := Lib.hid hu2
   clear HG
   go_wp2_with (refine wpList_make_own _ rfl _ _ _ rfl 0 174 i0 _ 3 Tryz.underlying45 hi hz0 hz1 _ _ _ n rfl rfl rfl ?mk1 ?mk2 (Nat.zero_le _) ?_)
   case mk1 => rw [hz2]; omega
   case mk2 => unfold maxLen; omega
   intro w4 hrow hg4
   have hM : Hid (Own1 w w4 (.slice (some ⟨w3.heap.size, 0, none⟩) 0 n) []) := Lib.hid ⟨hrow, fun g hk => by
    have hk' : w3.heap.size = g := by simpa [Value.ownBlock] using hk
    have := hu2.out.size
    omega, Upon.grown hu2.out hg4 (fun g hk => by cases hk)⟩
   clear hrow hg4 hi hz0 hz1 hz2 hu2
   go_wp2_with fail
   go_loopw [6, 8, 27] (fun pv u ov wr => ∃ (j p : Nat) (l : List M), ov = .int .u64 (j : Int) /\ pv = .int .i64 (p : Int) /\ j <= n /\ p <= s.size /\ Hid (l.length = j) /\ Hid (Bnd l) /\ Hid (Read n (sl.drop k) j l (sl.drop p)) /\ Hid (Own1 w wr u l)) (fun _ _ ov _ => n - (intOf ov).toNat)
   case atStart => exact ⟨0, k, [], rfl, rfl, Nat.zero_le _, hks, Lib.hid rfl, Lib.hid (fun p hp => by simp at hp), Lib.hid (Read.start _ _), hM⟩
   case round =>
    clear hM
    obtain ⟨j, p, l, rfl, rfl, hj, hp, hlj, hsm, hrd, ho⟩ := hrel
    by_cases hlt : j < n
    ·have HP1 := Lib.hid (fun w => HP.out p hp w)
     clear HP
     have hfew : l.length <= 8 := by have := hlj.out; omega
     obtain ⟨A7, c7, hu7, -, -⟩ := Rw.View.shape ho.out.1.view
     subst hu7
     go_wp2_with fail
     refine (HP1.out _).mono ?_
     rintro e w5 ⟨⟨kd, a, b, q, x, rfl, hbm, hcase⟩, hu5⟩
     have ho5 := Lib.hid ((ho.out.step hu5).step ((Upon.refl _ w5).alloc (.cells #[.int .i64 kd, .string a, .string b] 174 (0, 0))))
     clear HP1 ho
     replace hbm := Lib.hid hbm
     by_cases hx0 : x = 0
     ·subst hx0
      obtain ⟨hq, t1⟩ : p + q <= s.size /\ one (sl.drop p) = ((kd, a, b), sl.drop (p + q), 0) := by
       rcases hcase with ⟨h, -⟩ | ⟨-, h⟩
       ·exact absurd rfl h
       ·exact h
      have hrd' := Lib.hid (hrd.out.step hlt t1)
      have hsm' := Lib.hid (Bnd.snoc hsm.out hbm.out)
      have hsum : wrap64 ((p : Int) + (q : Int)) = ((p + q : Nat) : Int) := by unfold wrap64; omega
      clear hcase t1 hrd hsm hbad hchk hgood hbm
      have hM := Lib.hid (ho5.out.1.new ((Upon.refl _ _).alloc (.cells #[.int .i64 kd, .string a, .string b] 174 (0, 0))))
      have hO := Lib.hid (ho5.out.step ((Upon.refl _ _).alloc (.cells #[.int .i64 kd, .string a, .string b] 174 (0, 0))))
      clear ho5
      have hX := Lib.hid (view_twice w5 (.cells #[.int .i64 kd, .string a, .string b] 174 (0, 0)) kd a b)
      go_wp2_with (at_builtin; refine Rw.wpList_append typM rfl _ _ rfl _ _ l [(kd, a, b)] All rfl rfl hM.out hX.out (by rw [List.length_singleton]; omega) (by rw [List.length_singleton]; omega) ?_)
      intro v' w6 hown hgr hbl
      have h6 := Lib.hid (hO.out.app hown hgr (hbl.imp id fun h => h.trans (by simp)))
      clear hM hO hX hown hgr hbl
      go_wp2_with fail
      go_roundw
      case rel => exact ⟨j + 1, p + q, _, by go_num, rfl, hlt, hq, Lib.hid (by rw [List.length_append, hlj.out]; rfl), hsm', hrd', h6⟩
      case measure => simp [intOf]; omega
     ·have hD : Hid (got sl = ([], 0, x)) := Lib.hid (hbad.out x (by
       rcases hcase with ⟨-, h2⟩ | ⟨h, -⟩
       ·exact hrd.out.bad hlt h2 hx0
       ·exact absurd h hx0) hx0)
      have dx : ((x : Int) != 0) = true := by rw [bne_iff_ne]; omega
      clear hcase hrd hsm hbad hchk hgood hx0 hbm
      go_wp2_with fail
      go_ret3
      exact GetN.no hD.out rfl ho5.out.2.2
    ·have hps := Lib.hid (hrd.out.last hlt)
     obtain ⟨A7, c7, hu7, -, -⟩ := Rw.View.shape ho.out.1.view
     subst hu7
     clear HP hrd
     by_cases hok : chk l = 0
     ·have HC := Lib.hid (check_any _ _ _ l ho.out.1.view hsm.out)
      have hD := Lib.hid (hgood.out l _ hps.out hok)
      rw [hok] at HC
      clear hps hsm hbad hchk hgood hok
      go_wp2_with fail
      refine HC.out.mono ?_
      rintro e w7 ⟨rfl, hu7⟩
      have h7 := Lib.hid (ho.out.step hu7)
      clear HC ho hu7
      go_wp2_with fail
      go_ret3
      exact GetN.yes hD.out (by rw [List.length_drop]; omega) ((Rw.Mine.view h7.out.1).mono fun b _ hb => h7.out.2.1 b hb) h7.out.2.2
     ·have HC := Lib.hid (check_any _ _ _ l ho.out.1.view hsm.out)
      have hD := Lib.hid (hchk.out l _ hps.out hok)
      obtain ⟨z, hz⟩ : ∃ z, chk l = z := ⟨_, rfl⟩
      rw [hz] at HC hD hok
      have dz : ((z : Int) != 0) = true := by rw [bne_iff_ne]; omega
      clear hps hsm hbad hchk hgood hok hz
      go_wp2_with fail
      refine HC.out.mono ?_
      rintro e w7 ⟨rfl, hu7⟩
      have h7 := Lib.hid (ho.out.step hu7)
      clear HC ho hu7
      go_wp2_with fail
      go_ret3
      exact GetN.no hD.out rfl h7.out.2.2
 ·have dx : ((x : Int) != 0) = true := by rw [bne_iff_ne]; omega
  have hD := Lib.hid (got_no (by rw [tk_num hg hx]) hx)
  clear hg HP hx
  go_enter Tryz.func216, Tryz.ntmps216
  go_wp2_with fail
  refine (HG.out _).mono ?_
  rintro e w2 ⟨rfl, hu2⟩
  replace hu2 := Lib.hid hu2
  clear HG
  go_wp2_with fail
  go_ret3
  exact GetN.no hD.out rfl hu2.out
end Mt
end
section
open Go.RowKit Go.Sort
namespace Mt
open Bit Dsk Ob Dig Lb
end Mt
end
end
end Go.Proofs.YtgmnhodajngchaaGreatDoor
