/- Layer 11: the law MatchKinds. -/
import Derived.Test.YtckphnemnbejmaaMtLaw4
set_option maxRecDepth 100000
namespace Go.Proofs.Ytckphnemnbejmaa
open Go.RowKit Go.Sort
namespace Mt
open Bit Dsk Ob Dig Lb
set_option linter.unusedVariables false

/-- A pair at g1, a matcher at g2. -/
structure KM (g1 g2 : Nat) (x : ByteArray) (k : Int) (n v : ByteArray) (w : World) : Prop where
  ne : g1 ≠ g2
  l0 : w.cell? ⟨g1, 0, none⟩ = some (.string bA)
  l1 : w.cell? ⟨g1, 1, none⟩ = some (.string x)
  m0 : w.cell? ⟨g2, 0, none⟩ = some (.int .i64 k)
  m1 : w.cell? ⟨g2, 1, none⟩ = some (.string n)
  m2 : w.cell? ⟨g2, 2, none⟩ = some (.string v)
  f0 : w.frozen? ⟨g2, 0, none⟩ = false
  f1 : w.frozen? ⟨g2, 1, none⟩ = false
theorem New0.frozen {w w' : World} (h : New0 w w') {a : Addr} {v : Value} (hc : w.cell? a = some v) {b : Bool} (hf : w.frozen? a = b) : w'.frozen? a = b := by
  have hb := h.block a.block (World.block_lt_of_cell? w _ hc) (fun f => f)
  rw [← hf, World.frozen?, World.frozen?, hb]
section
variable {g1 g2 : Nat} {x : ByteArray} {k : Int} {n v : ByteArray} {w w' : World}
theorem KM.new (h : KM g1 g2 x k n v w) (hu : New0 w w') : KM g1 g2 x k n v w' :=
  ⟨h.ne, Lb.New0.cells hu h.l0, Lb.New0.cells hu h.l1, Lb.New0.cells hu h.m0, Lb.New0.cells hu h.m1, Lb.New0.cells hu h.m2, New0.frozen hu h.m0 h.f0, New0.frozen hu h.m1 h.f1⟩
theorem KM.l (h : KM g1 g2 x k n v w) : Lb.View w All (.slice (some ⟨g1, 0, none⟩) 1 1) [(bA, x)] :=
  Lb.view_of (l := [(bA, x)]) (c := 1) (Nat.le_refl _) (by unfold maxLen; decide) trivial fun i hi => by
    have : i = 0 := by simpa using hi
    subst this
    exact ⟨h.l0, h.l1⟩
theorem KM.m (h : KM g1 g2 x k n v w) : View w All (.slice (some ⟨g2, 0, none⟩) 1 1) [(k, n, v)] :=
  Mt.view_of (l := [(k, n, v)]) (c := 1) (Nat.le_refl _) (by unfold maxLen; decide) trivial fun i hi => by
    have : i = 0 := by simpa using hi
    subst this
    exact ⟨h.m0, h.m1, h.m2⟩
theorem set_far {w : World} {b b' o o' : Nat} {y z : Value} (h : b ≠ b') (hc : w.cell? ⟨b, o, none⟩ = some z) : (w.setCell ⟨b', o', none⟩ y).cell? ⟨b, o, none⟩ = some z := by
  rw [← hc]
  simp [World.cell?, World.setCell, Array.getElem?_modify, h.symm]
theorem KM.setK (h : KM g1 g2 x k n v w) (k' : Int) : KM g1 g2 x k' n v (w.setCell ⟨g2, 0, none⟩ (.int .i64 k')) :=
  ⟨h.ne, set_far h.ne h.l0, set_far h.ne h.l1, World.cell?_setCell_same _ _ _ h.m0, World.set_other (by decide) h.m1, World.set_other (by decide) h.m2, (World.frozen?_setCell w _ _ _).trans h.f0, (World.frozen?_setCell w _ _ _).trans h.f1⟩
theorem KM.setN (h : KM g1 g2 x k n v w) (n' : ByteArray) : KM g1 g2 x k n' v (w.setCell ⟨g2, 1, none⟩ (.string n')) :=
  ⟨h.ne, set_far h.ne h.l0, set_far h.ne h.l1, World.set_other (by decide) h.m0, World.cell?_setCell_same _ _ _ h.m1, World.set_other (by decide) h.m2, (World.frozen?_setCell w _ _ _).trans h.f0, (World.frozen?_setCell w _ _ _).trans h.f1⟩
end
theorem km_new (W : World) (x v : ByteArray) : KM W.heap.size (W.heap.size + 1) x 1 bA v ((W.alloc (.cells #[.string bA, .string x] 40 (0, 0))).alloc (.cells #[.int .i64 1, .string bA, .string v] 37 (0, 0))) := by
  have h := cell_new (W.alloc (.cells #[.string bA, .string x] 40 (0, 0))) (.cells #[.int .i64 1, .string bA, .string v] 37 (0, 0))
  have e : (W.alloc (.cells #[.string bA, .string x] 40 (0, 0))).heap.size = W.heap.size + 1 := by simp
  rw [e] at h
  have hu := (Upon.refl (fun _ => False) (W.alloc (.cells #[.string bA, .string x] 40 (0, 0)))).alloc (.cells #[.int .i64 1, .string bA, .string v] 37 (0, 0))
  have h1 := cell_new W (.cells #[.string bA, .string x] 40 (0, 0))
  refine ⟨by omega, Lb.New0.cells hu (by rw [Lib.cell_of_heap h1]; rfl), Lb.New0.cells hu (by rw [Lib.cell_of_heap h1]; rfl), by rw [Lib.cell_of_heap h]; rfl, by rw [Lib.cell_of_heap h]; rfl, by rw [Lib.cell_of_heap h]; rfl, ?_, ?_⟩
  all_goals (rw [World.frozen?, h]; rfl)
theorem nmA : Lb.nm bA = true := by decide +kernel
theorem nmB' : Lb.nm bB = true := by decide +kernel
theorem get_A (x : ByteArray) : Lb.get [(bA, x)] bA = x := by simp [Lb.get]
theorem get_B (x : ByteArray) : Lb.get [(bA, x)] bB = ByteArray.empty := by
  have : bA ≠ bB := by decide +kernel
  simp [Lb.get, this]
/-- Right for one name and kind: for other ones too. -/
theorem right_all {v : ByteArray} (h : right ((1 : Int), bA, v) = 0) : right ((3 : Int), bA, v) = 0 ∧ right ((3 : Int), bB, v) = 0 ∧ right ((2 : Int), bB, v) = 0 := by
  obtain ⟨-, -, -, h4⟩ := right_zero.1 h
  refine ⟨right_zero.2 ⟨(show (1 : Int) ≤ 3 by decide), (show (3 : Int) ≤ 4 by decide), nmA, fun h => ⟨(h4 h).1, (show (3 : Int) ≠ 4 by decide)⟩⟩, right_zero.2 ⟨(show (1 : Int) ≤ 3 by decide), (show (3 : Int) ≤ 4 by decide), nmB', fun h => ⟨(h4 h).1, (show (3 : Int) ≠ 4 by decide)⟩⟩, right_zero.2 ⟨(show (1 : Int) ≤ 2 by decide), (show (2 : Int) ≤ 4 by decide), nmB', fun h => ⟨(h4 h).1, (show (2 : Int) ≠ 4 by decide)⟩⟩⟩
theorem right_any4 (n : ByteArray) (h : Lb.nm n = true) : right ((4 : Int), n, ByteArray.empty) = 0 := right_zero.2 ⟨(show (1 : Int) ≤ 4 by decide), (show (4 : Int) ≤ 4 by decide), h, fun h => absurd rfl h⟩
theorem pre_emp (v : ByteArray) : pre v ByteArray.empty = decide (v.size = 0) := by
  unfold pre
  by_cases h : v.size = 0
  · have hv : v = ByteArray.empty := by
      refine Lb.data_inj ?_
      have : v.data.toList.length = 0 := by simpa using h
      rw [List.length_eq_zero_iff.1 this]; rfl
    subst hv
    rfl
  · rw [decide_eq_false h]
    have : ¬ v.size ≤ ByteArray.empty.size := by show ¬ v.size ≤ 0; omega
    rw [decide_eq_false this, Bool.false_and]
theorem eq_emp (v : ByteArray) : decide (ByteArray.empty = v) = decide (v.size = 0) := by
  refine decide_eq_decide.2 ⟨fun h => by rw [← h]; rfl, fun h => ?_⟩
  refine Lb.data_inj ?_
  have : v.data.toList.length = 0 := by simpa using h
  rw [List.length_eq_zero_iff.1 this]; rfl
theorem bnd1' {k : Int} {n v : ByteArray} (h0 : 0 ≤ k) (h1 : k ≤ 4) (hn : n.size ≤ 100) (hv : v.size ≤ 140737488351232) : Bnd [(k, n, v)] := fun x hx => by
  rw [List.mem_singleton.1 hx]; exact ⟨by simp only; omega, by simp only; omega, by simp only; omega, by simp only; omega⟩
set_option maxHeartbeats 6400000 in
theorem kinds_bad (x v : ByteArray) (hx : x.size ≤ 140737488351232) (hv : v.size ≤ 140737488351232) (W : World) (hq : right ((1 : Int), bA, v) ≠ 0) :
    Calls Try.prog 7 #[.string x, .string v] W fun e W' => e = .returned (.bool true) ∧ Below W.heap.size W W' := by
  have HW := Lib.hid (worksB W)
  have hAs : bA.size ≤ 100 := by decide
  have HC := Lib.hid (fun w g1 g2 (h : KM g1 g2 x 1 bA v w) => by have := check_any w All _ _ h.m (bnd1' (by decide) (by decide) hAs hv); rw [chk_one] at this; exact this)
  have HI1 := Lib.hid (fun w g1 g2 (h : KM g1 g2 x 1 bA v w) => is_any w All All _ _ _ _ h.m (bnd1' (by decide) (by decide) hAs hv) h.l)
  rw [is_no (by rw [chk_one]; exact hq)] at HI1
  obtain ⟨q, hq'⟩ : ∃ q, right ((1 : Int), bA, v) = q := ⟨_, rfl⟩
  rw [hq'] at HC hq
  have dq : ((q : Int) != 0) = true := by rw [bne_iff_ne]; omega
  clear hq hq' hx hv hAs
  go_enter Try.func7, Try.ntmps7
  go_wp2_with fail
  refine HW.out.mono ?_
  rintro e w1 ⟨rfl, hu1⟩
  have hk2 := km_new w1 x v
  have hu2 := Lib.hid ((hu1.alloc (.cells #[.string bA, .string x] 40 (0, 0))).alloc (.cells #[.int .i64 1, .string bA, .string v] 37 (0, 0)))
  obtain ⟨w2, hw2⟩ : ∃ w2, (w1.alloc (.cells #[.string bA, .string x] 40 (0, 0))).alloc (.cells #[.int .i64 1, .string bA, .string v] 37 (0, 0)) = w2 := ⟨_, rfl⟩
  rw [hw2] at hk2 hu2
  replace hk2 := Lib.hid hk2
  replace hw2 := Lib.hid hw2
  have hW1 : W.heap.size ≤ w1.heap.size + 1 := by have := hu1.size; omega
  have HC2 := Lib.hid (HC.out _ _ _ hk2.out)
  clear HW HC hu1
  go_wp2_with fail
  rw [hw2.out]
  clear hw2
  refine HC2.out.mono ?_
  rintro e w3 ⟨rfl, hu⟩
  have hk3 := Lib.hid (hk2.out.new hu)
  have hu3 := Lib.hid (hu2.out.trans hu)
  have HI := Lib.hid (HI1.out _ _ _ hk3.out)
  clear HC2 hk2 hu hu2 HI1
  go_wp2_with fail
  refine HI.out.mono ?_
  rintro e w4 ⟨rfl, hu⟩
  have hk4 := Lib.hid (hk3.out.new hu)
  have hu4 := Lib.hid (hu3.out.trans hu)
  clear HI hk3 hu hu3
  have hend := Lib.hid (belowOf hu4.out)
  clear hk4 hu4
  go_wp2_with fail
  go_ret
  exact ⟨rfl, hend.out⟩
set_option maxHeartbeats 6400000 in
theorem kinds_emp (x v : ByteArray) (hx : x.size ≤ 140737488351232) (hv : v.size ≤ 140737488351232) (W : World) (hq : right ((1 : Int), bA, v) = 0) (hx0 : x.size = 0) :
    Calls Try.prog 7 #[.string x, .string v] W fun e W' => e = .returned (.bool true) ∧ Below W.heap.size W W' := by
  have HW := Lib.hid (worksB W)
  have hAs : bA.size ≤ 100 := by decide
  have HC := Lib.hid (fun w g1 g2 (h : KM g1 g2 x 1 bA v w) => by have := check_any w All _ _ h.m (bnd1' (by decide) (by decide) hAs hv); rw [chk_one] at this; exact this)
  have HI1 := Lib.hid (fun w g1 g2 (h : KM g1 g2 x 1 bA v w) => is_any w All All _ _ _ _ h.m (bnd1' (by decide) (by decide) hAs hv) h.l)
  rw [hq] at HC
  have dx : (x.toList == []) = true := emp_yes hx0
  have dx' : x.toList.isEmpty = true := by rw [emp_is, decide_eq_true hx0]
  obtain ⟨b, hb⟩ : ∃ b, is [((1 : Int), bA, v)] [(bA, x)] = b := ⟨_, rfl⟩
  rw [hb] at HI1
  clear hq hb hx hv hAs hx0
  go_enter Try.func7, Try.ntmps7
  go_wp2_with fail
  refine HW.out.mono ?_
  rintro e w1 ⟨rfl, hu1⟩
  have hk2 := km_new w1 x v
  have hu2 := Lib.hid ((hu1.alloc (.cells #[.string bA, .string x] 40 (0, 0))).alloc (.cells #[.int .i64 1, .string bA, .string v] 37 (0, 0)))
  obtain ⟨w2, hw2⟩ : ∃ w2, (w1.alloc (.cells #[.string bA, .string x] 40 (0, 0))).alloc (.cells #[.int .i64 1, .string bA, .string v] 37 (0, 0)) = w2 := ⟨_, rfl⟩
  rw [hw2] at hk2 hu2
  replace hk2 := Lib.hid hk2
  replace hw2 := Lib.hid hw2
  have hW1 : W.heap.size ≤ w1.heap.size + 1 := by have := hu1.size; omega
  have HC2 := Lib.hid (HC.out _ _ _ hk2.out)
  clear HW HC hu1
  go_wp2_with fail
  rw [hw2.out]
  clear hw2
  refine HC2.out.mono ?_
  rintro e w3 ⟨rfl, hu⟩
  have hk3 := Lib.hid (hk2.out.new hu)
  have hu3 := Lib.hid (hu2.out.trans hu)
  have HI := Lib.hid (HI1.out _ _ _ hk3.out)
  clear HC2 hk2 hu hu2 HI1
  go_wp2_with fail
  refine HI.out.mono ?_
  rintro e w4 ⟨rfl, hu⟩
  have hk4 := Lib.hid (hk3.out.new hu)
  have hu4 := Lib.hid (hu3.out.trans hu)
  clear HI hk3 hu hu3
  have hend := Lib.hid (belowOf hu4.out)
  clear hk4 hu4
  cases b with
  | true =>
    go_wp2_with fail
    go_ret
    exact ⟨rfl, hend.out⟩
  | false =>
    go_wp2_with fail
    go_ret
    exact ⟨rfl, hend.out⟩
set_option maxHeartbeats 12800000 in
theorem kinds_good (x v : ByteArray) (hx : x.size ≤ 140737488351232) (hv : v.size ≤ 140737488351232) (W : World) (hq : right ((1 : Int), bA, v) = 0) (hx0 : x.size ≠ 0) :
    Calls Try.prog 7 #[.string x, .string v] W fun e W' => e = .returned (.bool true) ∧ Below W.heap.size W W' := by
  have HW := Lib.hid (worksB W)
  have hAs : bA.size ≤ 100 := by decide
  have hBs : bB.size ≤ 100 := by decide
  have HC := Lib.hid (fun w g1 g2 (h : KM g1 g2 x 1 bA v w) => by have := check_any w All _ _ h.m (bnd1' (by decide) (by decide) hAs hv); rw [chk_one] at this; exact this)
  have HI1 := Lib.hid (fun w g1 g2 (h : KM g1 g2 x 1 bA v w) => is_any w All All _ _ _ _ h.m (bnd1' (by decide) (by decide) hAs hv) h.l)
  have HI2 := Lib.hid (fun w g1 g2 (h : KM g1 g2 x 3 bA v w) => is_any w All All _ _ _ _ h.m (bnd1' (by decide) (by decide) hAs hv) h.l)
  have HI3 := Lib.hid (fun w g1 g2 (h : KM g1 g2 x 3 bB v w) => is_any w All All _ _ _ _ h.m (bnd1' (by decide) (by decide) hBs hv) h.l)
  have HI4 := Lib.hid (fun w g1 g2 (h : KM g1 g2 x 2 bB v w) => is_any w All All _ _ _ _ h.m (bnd1' (by decide) (by decide) hBs hv) h.l)
  have HA := Lib.hid (fun w u g1 g2 (hu : View w All u [((4 : Int), bA, ByteArray.empty)]) (h : KM g1 g2 x 2 bB v w) => is_any w All All _ _ _ _ hu (bnd1' (by decide) (by decide) hAs (by decide)) h.l)
  have HB := Lib.hid (fun w u g1 g2 (hu : View w All u [((4 : Int), bB, ByteArray.empty)]) (h : KM g1 g2 x 2 bB v w) => is_any w All All _ _ _ _ hu (bnd1' (by decide) (by decide) hBs (by decide)) h.l)
  obtain ⟨q3, q3B, q2B⟩ := right_all hq
  obtain ⟨z, hz⟩ : ∃ z, v.toList.isEmpty = z := ⟨_, rfl⟩
  have hz1 : (v.toList == []) = z := by
    rw [← hz, emp_is]
    by_cases h : v.size = 0
    · rw [emp_yes h, decide_eq_true h]
    · rw [emp_no h, decide_eq_false h]
  have hz2 : decide (v.size = 0) = z := by rw [← hz, emp_is]
  rw [hq] at HC
  rw [is_one hq, holds_1] at HI1
  rw [is_one q3, holds_3] at HI2
  rw [is_one q3B, holds_3] at HI3
  rw [is_one q2B, holds_2] at HI4
  rw [is_one (right_any4 bA nmA), holds_4 (by decide) (by decide) (by decide)] at HA
  rw [is_one (right_any4 bB nmB'), holds_4 (by decide) (by decide) (by decide)] at HB
  simp only [get_A, get_B, pre_emp, eq_emp, hz2] at HI1 HI2 HI3 HI4 HA HB
  rw [decide_eq_false hx0] at HA
  rw [show (!decide (ByteArray.empty.size = 0)) = false from rfl] at HB
  rw [← Lb.toList_beq] at HI1
  have dx : (x.toList == []) = false := emp_no hx0
  have dx' : x.toList.isEmpty = false := by rw [emp_is, decide_eq_false hx0]
  obtain ⟨y, hy⟩ : ∃ y, pre v x = y := ⟨_, rfl⟩
  rw [hy] at HI2
  have hy2 : Hid (if v.size ≤ x.size then ((x.extract 0 v.size).toList == v.toList) = y else y = false) := Lib.hid (by
    rw [← hy]; unfold pre
    by_cases h : v.size ≤ x.size
    · rw [if_pos h, decide_eq_true h, Bool.true_and, Lb.toList_beq]
    · rw [if_neg h, decide_eq_false h, Bool.false_and])
  clear hq hAs hBs hx0 q3 q3B q2B hz2 hy hx hv
  go_enter Try.func7, Try.ntmps7
  go_wp2_with fail
  refine HW.out.mono ?_
  rintro e w1 ⟨rfl, hu1⟩
  have hk2 := km_new w1 x v
  have hu2 := Lib.hid ((hu1.alloc (.cells #[.string bA, .string x] 40 (0, 0))).alloc (.cells #[.int .i64 1, .string bA, .string v] 37 (0, 0)))
  obtain ⟨w2, hw2⟩ : ∃ w2, (w1.alloc (.cells #[.string bA, .string x] 40 (0, 0))).alloc (.cells #[.int .i64 1, .string bA, .string v] 37 (0, 0)) = w2 := ⟨_, rfl⟩
  rw [hw2] at hk2 hu2
  replace hk2 := Lib.hid hk2
  replace hw2 := Lib.hid hw2
  have hW1 : W.heap.size ≤ w1.heap.size + 1 := by have := hu1.size; omega
  have HC2 := Lib.hid (HC.out _ _ _ hk2.out)
  clear HW HC hu1
  go_wp2_with fail
  rw [hw2.out]
  clear hw2
  refine HC2.out.mono ?_
  rintro e w3 ⟨rfl, hu⟩
  have hk3 := Lib.hid (hk2.out.new hu)
  have hu3 := Lib.hid (hu2.out.trans hu)
  have HI := Lib.hid (HI1.out _ _ _ hk3.out)
  clear HC2 hk2 hu hu2 HI1
  go_wp2_with fail
  refine HI.out.mono ?_
  rintro e w4 ⟨rfl, hu⟩
  have hk4 := Lib.hid (hk3.out.new hu)
  have hu4 := Lib.hid (hu3.out.trans hu)
  clear HI hk3 hu hu3
  have c0_5 := hk4.out.m0
  have f0_5 := hk4.out.f0
  have hs5 := hk4.out.setK 3
  have hv5 : New0 W (w4.setCell ⟨w1.heap.size + 1, 0, none⟩ (.int .i64 3)) := Upon.setCell (p := ⟨w1.heap.size + 1, 0, none⟩) hu4.out (.inr hW1) _
  obtain ⟨s5, hseq5⟩ : ∃ s, w4.setCell ⟨w1.heap.size + 1, 0, none⟩ (.int .i64 3) = s := ⟨_, rfl⟩
  rw [hseq5] at hs5 hv5
  have HJ5 := Lib.hid (HI2.out _ _ _ hs5)
  replace hs5 := Lib.hid hs5
  replace hv5 := Lib.hid hv5
  replace hseq5 := Lib.hid hseq5
  clear hk4 hu4 HI2
  go_wp2_with fail
  rw [hseq5.out]
  clear hseq5 c0_5 f0_5
  refine HJ5.out.mono ?_
  rintro e w5 ⟨rfl, hu⟩
  have hk5 := Lib.hid (hs5.out.new hu)
  have hu5 := Lib.hid (hv5.out.trans hu)
  clear HJ5 hs5 hv5 hu
  have c0_6 := hk5.out.m1
  have f0_6 := hk5.out.f1
  have hs6 := hk5.out.setN bB
  have hv6 : New0 W (w5.setCell ⟨w1.heap.size + 1, 1, none⟩ (.string bB)) := Upon.setCell (p := ⟨w1.heap.size + 1, 1, none⟩) hu5.out (.inr hW1) _
  obtain ⟨s6, hseq6⟩ : ∃ s, w5.setCell ⟨w1.heap.size + 1, 1, none⟩ (.string bB) = s := ⟨_, rfl⟩
  rw [hseq6] at hs6 hv6
  have HJ6 := Lib.hid (HI3.out _ _ _ hs6)
  replace hs6 := Lib.hid hs6
  replace hv6 := Lib.hid hv6
  replace hseq6 := Lib.hid hseq6
  clear hk5 hu5 HI3
  go_wp2_with fail
  rw [hseq6.out]
  clear hseq6 c0_6 f0_6
  refine HJ6.out.mono ?_
  rintro e w6 ⟨rfl, hu⟩
  have hk6 := Lib.hid (hs6.out.new hu)
  have hu6 := Lib.hid (hv6.out.trans hu)
  clear HJ6 hs6 hv6 hu
  have c0_7 := hk6.out.m0
  have f0_7 := hk6.out.f0
  have hs7 := hk6.out.setK 2
  have hv7 : New0 W (w6.setCell ⟨w1.heap.size + 1, 0, none⟩ (.int .i64 2)) := Upon.setCell (p := ⟨w1.heap.size + 1, 0, none⟩) hu6.out (.inr hW1) _
  obtain ⟨s7, hseq7⟩ : ∃ s, w6.setCell ⟨w1.heap.size + 1, 0, none⟩ (.int .i64 2) = s := ⟨_, rfl⟩
  rw [hseq7] at hs7 hv7
  have HJ7 := Lib.hid (HI4.out _ _ _ hs7)
  replace hs7 := Lib.hid hs7
  replace hv7 := Lib.hid hv7
  replace hseq7 := Lib.hid hseq7
  clear hk6 hu6 HI4
  go_wp2_with fail
  rw [hseq7.out]
  clear hseq7 c0_7 f0_7
  refine HJ7.out.mono ?_
  rintro e w7 ⟨rfl, hu⟩
  have hk7 := Lib.hid (hs7.out.new hu)
  have hu7 := Lib.hid (hv7.out.trans hu)
  clear HJ7 hs7 hv7 hu
  by_cases hvx : v.size ≤ x.size
  · have e2 : ((x.extract 0 v.size).toList == v.toList) = y := by have := hy2.out; rwa [if_pos hvx] at this
    have d1 : (v.size : Int) ≤ (x.size : Int) := by omega
    have hk8 := Lib.hid (hk7.out.new ((Upon.refl _ w7).alloc (.cells #[.int .i64 4, .string bA, .string ByteArray.empty] 37 (0, 0))))
    have hu8 := Lib.hid (hu7.out.alloc (.cells #[.int .i64 4, .string bA, .string ByteArray.empty] 37 (0, 0)))
    have HA8 := Lib.hid (HA.out _ _ _ _ (Mt.view_two w7 4 bA ByteArray.empty) hk8.out)
    clear hy2 hk7 hu7 HA
    go_wp2_with fail
    refine HA8.out.mono ?_
    rintro e w9 ⟨rfl, hu⟩
    have hk9 := Lib.hid ((hk8.out.new hu).new ((Upon.refl _ w9).alloc (.cells #[.int .i64 4, .string bB, .string ByteArray.empty] 37 (0, 0))))
    have hu9 := Lib.hid ((hu8.out.trans hu).alloc (.cells #[.int .i64 4, .string bB, .string ByteArray.empty] 37 (0, 0)))
    have HB9 := Lib.hid (HB.out _ _ _ _ (Mt.view_two w9 4 bB ByteArray.empty) hk9.out)
    clear HA8 hk8 hu8 hu HB
    go_wp2_with fail
    refine HB9.out.mono ?_
    rintro e w10 ⟨rfl, hu⟩
    have hend := Lib.hid (belowOf (hu9.out.trans hu))
    clear HB9 hk9 hu9 hu
    go_wp2_with fail
    go_ret
    exact ⟨rfl, hend.out⟩
  · have e2 : y = false := by have := hy2.out; rwa [if_neg hvx] at this
    have d1 : ¬ (v.size : Int) ≤ (x.size : Int) := by omega
    subst e2
    have hk8 := Lib.hid (hk7.out.new ((Upon.refl _ w7).alloc (.cells #[.int .i64 4, .string bA, .string ByteArray.empty] 37 (0, 0))))
    have hu8 := Lib.hid (hu7.out.alloc (.cells #[.int .i64 4, .string bA, .string ByteArray.empty] 37 (0, 0)))
    have HA8 := Lib.hid (HA.out _ _ _ _ (Mt.view_two w7 4 bA ByteArray.empty) hk8.out)
    clear hy2 hk7 hu7 HA
    go_wp2_with fail
    refine HA8.out.mono ?_
    rintro e w9 ⟨rfl, hu⟩
    have hk9 := Lib.hid ((hk8.out.new hu).new ((Upon.refl _ w9).alloc (.cells #[.int .i64 4, .string bB, .string ByteArray.empty] 37 (0, 0))))
    have hu9 := Lib.hid ((hu8.out.trans hu).alloc (.cells #[.int .i64 4, .string bB, .string ByteArray.empty] 37 (0, 0)))
    have HB9 := Lib.hid (HB.out _ _ _ _ (Mt.view_two w9 4 bB ByteArray.empty) hk9.out)
    clear HA8 hk8 hu8 hu HB
    go_wp2_with fail
    refine HB9.out.mono ?_
    rintro e w10 ⟨rfl, hu⟩
    have hend := Lib.hid (belowOf (hu9.out.trans hu))
    clear HB9 hk9 hu9 hu
    go_wp2_with fail
    go_ret
    exact ⟨rfl, hend.out⟩
theorem kinds_true (x v : ByteArray) (hx : x.size ≤ 140737488351232) (hv : v.size ≤ 140737488351232) (W : World) :
    Calls Try.prog 7 #[.string x, .string v] W fun e W' => e = .returned (.bool true) ∧ Below W.heap.size W W' := by
  by_cases hq : right ((1 : Int), bA, v) = 0
  · by_cases hx0 : x.size = 0
    · exact kinds_emp x v hx hv W hq hx0
    · exact kinds_good x v hx hv W hq hx0
  · exact kinds_bad x v hx hv W hq
end Mt
end Go.Proofs.Ytckphnemnbejmaa
