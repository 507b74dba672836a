/- The document's own records (layer 12): Check. -/
import Derived.Test.YtkachkoiajdhgaaRcRow
import Derived.Test.YtkachkoiajdhgaaPMt1
set_option maxRecDepth 100000
namespace Go.Proofs.Ytkachkoiajdhgaa
open Go.RowKit Go.Sort
namespace Rc
open Bit Dsk Ob Dig
set_option linter.unusedVariables false

/-- A record in a box: its five cells. -/
structure Box5 (g : Nat) (k : Int) (s m : Value) (a b : Int) (w : World) : Prop where
  c0 : w.cell? ⟨g, 0, none⟩ = some (.int .i64 k)
  c1 : w.cell? ⟨g, 1, none⟩ = some s
  c2 : w.cell? ⟨g, 2, none⟩ = some m
  c3 : w.cell? ⟨g, 3, none⟩ = some (.int .i64 a)
  c4 : w.cell? ⟨g, 4, none⟩ = some (.int .i64 b)
theorem Box5.new {g : Nat} {k : Int} {s m : Value} {a b : Int} {w w' : World} (h : Box5 g k s m a b w) (hu : New0 w w') : Box5 g k s m a b w' :=
  ⟨Lb.New0.cells hu h.c0, Lb.New0.cells hu h.c1, Lb.New0.cells hu h.c2, Lb.New0.cells hu h.c3, Lb.New0.cells hu h.c4⟩
theorem box5 (w : World) (k : Int) (s m : Value) (a b : Int) : Box5 w.heap.size k s m a b (w.alloc (.cells #[.int .i64 k, s, m, .int .i64 a, .int .i64 b] 25 (0, 0))) := by
  have h := cell_new w (.cells #[.int .i64 k, s, m, .int .i64 a, .int .i64 b] 25 (0, 0))
  exact ⟨by rw [Lib.cell_of_heap h]; rfl, by rw [Lib.cell_of_heap h]; rfl, by rw [Lib.cell_of_heap h]; rfl, by rw [Lib.cell_of_heap h]; rfl, by rw [Lib.cell_of_heap h]; rfl⟩
/-- The first j samples' labels are right. -/
def GoodL (l : List Smp) (j : Nat) : Prop := ∀ i (h : i < l.length), i < j → Lb.Ok l[i].1
theorem GoodL.start (l : List Smp) : GoodL l 0 := fun i _ h => absurd h (Nat.not_lt_zero i)
theorem GoodL.step {l : List Smp} {j : Nat} (h : GoodL l j) (hj : j < l.length) (ho : Lb.Ok l[j].1) : GoodL l (j + 1) := fun i hi h2 => by
  by_cases e : i = j
  · subst e; exact ho
  · exact h i hi (by omega)
theorem GoodL.last {l : List Smp} {j : Nat} (h : GoodL l j) (hj : ¬ j < l.length) : ¬ ∃ x ∈ l, ¬ Lb.Ok x.1 := fun ⟨x, hx, hn⟩ => by
  obtain ⟨i, hi, rfl⟩ := List.mem_iff_getElem.1 hx
  exact hn (h i hi (by omega))
set_option maxHeartbeats 6400000 in
theorem refcheck_any (w : World) (S : Nat → Prop) (v : Value) (r : R) (hv : RView w S v r) (hb : Bnd r) :
    Calls Try.prog 15 #[v] w fun e w' => e = .returned (.int .i64 (chk r : Int)) ∧ New0 w w' := by
  obtain ⟨A, c, A', c', rfl, hs, hm⟩ := RView.shape hv
  obtain ⟨k, l, ms, a, b⟩ := r
  simp only at hs hm ⊢
  have hB := box5 w k (.slice A l.length c) (.slice A' ms.length c') a b
  have hU := Lib.hid ((Upon.refl (fun _ => False) w).alloc (.cells #[.int .i64 k, .slice A l.length c, .slice A' ms.length c', .int .i64 a, .int .i64 b] 25 (0, 0)))
  have HC := Lib.hid (fun w1 (hu : New0 w w1) => Mt.refcheck_any w1 S _ ms (Rw.View.new hm hu) hb.ms)
  have HL := Lib.hid (fun w1 (hu : New0 w w1) x s (hx : Lb.View w S s x) (hsm : Lb.Sml x) => Lb.refcheck_any w1 S s x (Rw.View.new hx hu) hsm)
  have hsml : Hid (∀ x ∈ l, Lb.Sml x.1) := Lib.hid (fun x hx => (hb.smp x hx).1)
  replace hs := Lib.hid hs
  clear hm hv hb
  by_cases h1 : k = 1
  · subst h1
    have n1 : ¬ noKind ⟨1, l, ms, a, b⟩ := fun h => h.1 rfl
    by_cases c1 : 0 < ms.length
    · have hR : Hid ((3 : Int) = (chk ⟨1, l, ms, a, b⟩ : Int)) := Lib.hid (by rw [chk_field n1 (.inl ⟨rfl, .inl (fun e => by rw [show ms = [] from e] at c1; simp at c1)⟩)]; rfl)
      have d1 : (0 : Int) < (ms.length : Int) := by omega
      clear HC HL hsml hB n1 hs
      go_enter Try.func15, Try.ntmps15
      go_wp2_with fail
      go_ret
      exact ⟨Lb.ret_i hR.out, hU.out⟩
    have hms : ms = [] := by cases ms with | nil => rfl | cons x y => simp at c1
    subst hms
    simp only [List.length_nil] at hB hU HC
    by_cases c2 : a = 0
    · by_cases c3 : b = 0
      · subst c2 c3
        have n2 : ¬ strange ⟨1, l, [], 0, 0⟩ := by
          rintro (⟨-, h⟩ | ⟨h, -⟩)
          · rcases h with h | h | h
            · exact h rfl
            · exact h rfl
            · exact h rfl
          · exact h rfl
        by_cases c4 : l.length < 1
        · have hR : Hid ((2 : Int) = (chk ⟨1, l, [], 0, 0⟩ : Int)) := Lib.hid (by rw [chk_range n1 n2 ⟨rfl, .inl c4⟩]; rfl)
          have d2 : (l.length : Int) < 1 := by omega
          clear HC HL hsml hB n1 n2 hs 
          go_enter Try.func15, Try.ntmps15
          go_wp2_with fail
          go_ret
          exact ⟨Lb.ret_i hR.out, hU.out⟩
        by_cases c5 : 32 < l.length
        · have hR : Hid ((2 : Int) = (chk ⟨1, l, [], 0, 0⟩ : Int)) := Lib.hid (by rw [chk_range n1 n2 ⟨rfl, .inr c5⟩]; rfl)
          have d2 : ¬ (l.length : Int) < 1 := by omega
          have d3 : (32 : Int) < (l.length : Int) := by omega
          clear HC HL hsml hB n1 n2 hs 
          go_enter Try.func15, Try.ntmps15
          go_wp2_with fail
          go_ret
          exact ⟨Lb.ret_i hR.out, hU.out⟩
        have n3 : ¬ manyB ⟨1, l, [], 0, 0⟩ := by
          rintro ⟨-, h | h⟩
          · exact c4 h
          · exact c5 h
        have d2 : ¬ (l.length : Int) < 1 := by omega
        have d3 : ¬ (32 : Int) < (l.length : Int) := by omega
        have hm0 : Mt.chk [] = 0 := rfl
        rw [hm0] at HC
        have hbad : Hid (badL ⟨1, l, [], 0, 0⟩ → (16 : Int) = (chk ⟨1, l, [], 0, 0⟩ : Int)) := Lib.hid (fun h => by rw [chk_label n1 n2 n3 h]; rfl)
        have hgood : Hid (¬ badL ⟨1, l, [], 0, 0⟩ → (0 : Int) = (chk ⟨1, l, [], 0, 0⟩ : Int)) := Lib.hid (fun h => by rw [chk_right n1 n2 n3 h hm0 (Int.lt_irrefl 0)]; rfl)
        obtain ⟨q, hq⟩ : ∃ q, (chk ⟨1, l, [], 0, 0⟩ : Int) = q := ⟨_, rfl⟩
        rw [hq] at hbad hgood ⊢
        obtain ⟨b0, off, rfl, -, hcells⟩ := SView.cells hs.out (by omega)
        replace hcells := Lib.hid hcells
        have hfew : l.length ≤ 32 := by omega
        clear n1 n2 n3  hm0 hq hs c4 c5
        obtain ⟨wb, hwb⟩ : ∃ wb, w.alloc (.cells #[.int .i64 1, .slice (some ⟨b0, off, none⟩) l.length c, .slice A' 0 c', .int .i64 0, .int .i64 0] 25 (0, 0)) = wb := ⟨_, rfl⟩
        rw [hwb] at hB hU
        replace hwb := Lib.hid hwb
        replace hB := Lib.hid hB
        go_enter Try.func15, Try.ntmps15
        go_wp2_with fail
        rw [hwb.out]
        clear hwb d2 d3
        go_loopw [4] (fun ov wr => ∃ j : Nat, ov = .int .i64 (j : Int) ∧ j ≤ l.length ∧ Hid (GoodL l j) ∧ Hid (New0 wb wr)) (fun ov _ => l.length - (intOf ov).toNat)
        case atStart => exact ⟨0, rfl, Nat.zero_le _, Lib.hid (GoodL.start l), Lib.hid (Upon.refl _ _)⟩
        case round =>
          obtain ⟨j, rfl, hj, hg, hu⟩ := hrel
          obtain ⟨k0, k1, k2, k3, k4⟩ := hB.out.new hu.out
          by_cases hlt : j < l.length
          · obtain ⟨s, hsv, x0, -, -⟩ := hcells.out j hlt
            have r0 := Lb.New0.cells (hU.out.trans hu.out) x0
            have HL1 := Lib.hid (HL.out _ (hU.out.trans hu.out) _ _ hsv (hsml.out _ (List.getElem_mem hlt)))
            by_cases hok : Lb.Ok l[j].1
            · have hG := Lib.hid (hg.out.step hlt hok)
              rw [Lb.chk_ok hok] at HL1
              clear x0 hsv hg hok
              go_wp2_with fail
              refine HL1.out.mono ?_
              rintro e w2 ⟨rfl, n2, rfl⟩
              have hu2 := Lib.hid (hu.out.trans (upon_drewN _ wr n2))
              clear HL1 hu r0 k0 k1 k2 k3 k4
              go_wp2_with fail
              go_roundw
              case rel => exact ⟨j + 1, by go_num, hlt, hG, hu2⟩
              case measure => simp [intOf]; omega
            · have hR := Lib.hid (hbad.out ⟨_, List.getElem_mem hlt, hok⟩)
              rw [Lb.chk_no hok] at HL1
              clear x0 hsv hg hok
              go_wp2_with fail
              refine HL1.out.mono ?_
              rintro e w2 ⟨rfl, n2, rfl⟩
              have hu2 := Lib.hid (hU.out.trans (hu.out.trans (upon_drewN _ wr n2)))
              clear HL1 hu r0 k0 k1 k2 k3 k4
              go_wp2_with fail
              go_ret
              exact ⟨Lb.ret_i hR.out, hu2.out⟩
          · have hR := Lib.hid (hgood.out (hg.out.last hlt))
            have HC1 := Lib.hid (HC.out _ (hU.out.trans hu.out))
            clear hg hcells HL HC
            go_wp2_with fail
            refine HC1.out.mono ?_
            rintro e w2 ⟨rfl, hu2⟩
            obtain ⟨g0, g1, g2, g3, g4⟩ := (hB.out.new hu.out).new hu2
            have hend := Lib.hid ((hU.out.trans hu.out).trans hu2)
            clear HC1 hu hu2 k0 k1 k2 k3 k4
            go_wp2_with fail
            go_ret
            exact ⟨Lb.ret_i hR.out, hend.out⟩
      · have hR : Hid ((3 : Int) = (chk ⟨1, l, [], a, b⟩ : Int)) := Lib.hid (by rw [chk_field n1 (.inl ⟨rfl, .inr (.inr c3)⟩)]; rfl)
        have d2 : (b != 0) = true := by rw [bne_iff_ne]; exact c3
        subst c2
        clear HC HL hsml hB n1 hs c3  c1
        go_enter Try.func15, Try.ntmps15
        go_wp2_with fail
        go_ret
        exact ⟨Lb.ret_i hR.out, hU.out⟩
    · have hR : Hid ((3 : Int) = (chk ⟨1, l, [], a, b⟩ : Int)) := Lib.hid (by rw [chk_field n1 (.inl ⟨rfl, .inr (.inl c2)⟩)]; rfl)
      have d2 : (a != 0) = true := by rw [bne_iff_ne]; exact c2
      clear HC HL hsml hB n1 hs c2  c1
      go_enter Try.func15, Try.ntmps15
      go_wp2_with fail
      go_ret
      exact ⟨Lb.ret_i hR.out, hU.out⟩
  · have e1 : (k == 1) = false := by rw [beq_eq_false_iff_ne]; exact h1
    by_cases h2 : k = 2
    · subst h2
      have n1 : ¬ noKind ⟨2, l, ms, a, b⟩ := fun h => h.2 rfl
      by_cases c1 : 0 < l.length
      · have hR : Hid ((3 : Int) = (chk ⟨2, l, ms, a, b⟩ : Int)) := Lib.hid (by rw [chk_field n1 (.inr ⟨h1, (fun e => by rw [show l = [] from e] at c1; simp at c1)⟩)]; rfl)
        have d1 : (0 : Int) < (l.length : Int) := by omega
        clear HC HL hsml hB n1 hs
        go_enter Try.func15, Try.ntmps15
        go_wp2_with fail
        go_ret
        exact ⟨Lb.ret_i hR.out, hU.out⟩
      have hl : l = [] := by cases l with | nil => rfl | cons x y => simp at c1
      subst hl
      simp only [List.length_nil] at hB hU
      have n2 : ¬ strange ⟨2, [], ms, a, b⟩ := by
        rintro (⟨h, -⟩ | ⟨-, h⟩)
        · exact h1 h
        · exact h rfl
      have n3 : ¬ manyB ⟨2, [], ms, a, b⟩ := fun h => h1 h.1
      have n4 : ¬ badL ⟨2, [], ms, a, b⟩ := fun ⟨x, hx, _⟩ => by cases hx
      obtain ⟨wb, hwb⟩ : ∃ wb, w.alloc (.cells #[.int .i64 2, .slice A 0 c, .slice A' ms.length c', .int .i64 a, .int .i64 b] 25 (0, 0)) = wb := ⟨_, rfl⟩
      rw [hwb] at hB hU
      obtain ⟨k0, k1, k2, k3, k4⟩ := hB
      have HC1 := Lib.hid (HC.out _ hU.out)
      replace hwb := Lib.hid hwb
      have hB2 : Hid (∀ w', New0 wb w' → w'.cell? ⟨w.heap.size, 3, none⟩ = some (.int .i64 a) ∧ w'.cell? ⟨w.heap.size, 4, none⟩ = some (.int .i64 b)) := Lib.hid (fun w' hu => ⟨Lb.New0.cells hu k3, Lb.New0.cells hu k4⟩)
      by_cases hm : Mt.chk ms = 0
      · rw [hm] at HC1
        by_cases hab : b < a
        · have hR : Hid ((9 : Int) = (chk ⟨2, [], ms, a, b⟩ : Int)) := Lib.hid (by rw [chk_order n1 n2 n3 n4 hm hab]; rfl)
          clear n1 n2 n3 n4 hm HC HL hsml hs k0 k1 k2 k3 k4
          go_enter Try.func15, Try.ntmps15
          go_wp2_with fail
          go_loopw [4] (fun ov wr => ov = .int .i64 0 ∧ wr = w.alloc (.cells #[.int .i64 2, .slice A 0 c, .slice A' ms.length c', .int .i64 a, .int .i64 b] 25 (0, 0))) (fun _ _ => 0)
          case atStart => exact ⟨rfl, rfl⟩
          case round =>
            obtain ⟨rfl, rfl⟩ := hrel
            go_wp2_with fail
            rw [hwb.out]
            refine HC1.out.mono ?_
            rintro e w2 ⟨rfl, hu2⟩
            obtain ⟨g3, g4⟩ := hB2.out _ hu2
            have hend := Lib.hid (hU.out.trans hu2)
            clear HC1 hB2 hu2 hwb
            go_wp2_with fail
            go_ret
            exact ⟨Lb.ret_i hR.out, hend.out⟩
        · have hR : Hid ((0 : Int) = (chk ⟨2, [], ms, a, b⟩ : Int)) := Lib.hid (by rw [chk_right n1 n2 n3 n4 hm hab]; rfl)
          clear n1 n2 n3 n4 hm HC HL hsml hs k0 k1 k2 k3 k4
          go_enter Try.func15, Try.ntmps15
          go_wp2_with fail
          go_loopw [4] (fun ov wr => ov = .int .i64 0 ∧ wr = w.alloc (.cells #[.int .i64 2, .slice A 0 c, .slice A' ms.length c', .int .i64 a, .int .i64 b] 25 (0, 0))) (fun _ _ => 0)
          case atStart => exact ⟨rfl, rfl⟩
          case round =>
            obtain ⟨rfl, rfl⟩ := hrel
            go_wp2_with fail
            rw [hwb.out]
            refine HC1.out.mono ?_
            rintro e w2 ⟨rfl, hu2⟩
            obtain ⟨g3, g4⟩ := hB2.out _ hu2
            have hend := Lib.hid (hU.out.trans hu2)
            clear HC1 hB2 hu2 hwb
            go_wp2_with fail
            go_ret
            exact ⟨Lb.ret_i hR.out, hend.out⟩
      · have hR : Hid ((Mt.chk ms : Int) = (chk ⟨2, [], ms, a, b⟩ : Int)) := Lib.hid (by rw [chk_match n1 n2 n3 n4 hm])
        obtain ⟨z, hz⟩ : ∃ z, Mt.chk ms = z := ⟨_, rfl⟩
        rw [hz] at HC1 hm hR
        have dz : ((z : Int) == 0) = false := by rw [beq_eq_false_iff_ne]; omega
        clear n1 n2 n3 n4 hz HC HL hsml hs k0 k1 k2 k3 k4 hm
        go_enter Try.func15, Try.ntmps15
        go_wp2_with fail
        go_loopw [4] (fun ov wr => ov = .int .i64 0 ∧ wr = w.alloc (.cells #[.int .i64 2, .slice A 0 c, .slice A' ms.length c', .int .i64 a, .int .i64 b] 25 (0, 0))) (fun _ _ => 0)
        case atStart => exact ⟨rfl, rfl⟩
        case round =>
          obtain ⟨rfl, rfl⟩ := hrel
          go_wp2_with fail
          rw [hwb.out]
          refine HC1.out.mono ?_
          rintro e w2 ⟨rfl, hu2⟩
          have hend := Lib.hid (hU.out.trans hu2)
          clear HC1 hB2 hu2 hwb
          go_wp2_with fail
          go_ret
          exact ⟨Lb.ret_i hR.out, hend.out⟩
    · have e2 : (k != 2) = true := by rw [bne_iff_ne]; exact h2
      have hR : Hid ((5 : Int) = (chk ⟨k, l, ms, a, b⟩ : Int)) := Lib.hid (by rw [chk_kind ⟨h1, h2⟩]; rfl)
      clear HC HL hsml hB hs h1 h2
      go_enter Try.func15, Try.ntmps15
      go_wp2_with fail
      go_ret
      exact ⟨Lb.ret_i hR.out, hU.out⟩
end Rc
end Go.Proofs.Ytkachkoiajdhgaa
