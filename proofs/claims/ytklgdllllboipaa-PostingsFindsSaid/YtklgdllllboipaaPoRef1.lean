/- Lists of numbers in memory, and the document's own steps over them (layer 14): has, Same. -/
import Derived.Test.YtklgdllllboipaaPoPure
import Derived.Test.YtklgdllllboipaaPLb1
import Derived.Test.YtklgdllllboipaaPRow
set_option maxRecDepth 100000
namespace Go.Proofs.Ytklgdllllboipaa
open Go.RowKit Go.Sort
namespace Po
open Bit Dsk Ob Dig
set_option linter.unusedVariables false
def layI : Rw.Lay Int := ⟨1, by decide, fun z => [.int .i64 z], fun _ => rfl, fun z u hu => by rw [List.mem_singleton.1 hu]; rfl⟩
abbrev IView := Rw.View layI
abbrev IMine := Rw.Mine layI 3
abbrev All : Nat → Prop := fun _ => True
theorem typI : Rw.Typ layI 22 3 8 := Rw.Typ.mk' (z := .int .i64 0) Try.underlying22 (by kernel_rfl) rfl
theorem IView.cells {w : World} {S : Nat → Prop} {A : Option Addr} {n c : Nat} {l : List Int} (h : IView w S (.slice A n c) l) (hp : 0 < l.length) : ∃ b off, A = some ⟨b, off, none⟩ ∧ S b ∧ b < w.heap.size ∧ ∀ i (hi : i < l.length), w.cell? ⟨b, off + i, none⟩ = some (.int .i64 l[i]) := by
  obtain ⟨b, off, h1, h2, h3, h4⟩ := Rw.View.open h hp
  exact ⟨b, off, h1, h2, h3, fun i hi => by have := h4 i hi 0 _ rfl; simpa [layI] using this⟩
theorem view_one (w : World) (n : Int) : IView (w.alloc (.cells #[.int .i64 n] 3 (0, 0))) All (.slice (some ⟨w.heap.size, 0, none⟩) 1 1) [n] := by
  refine ⟨_, 1, rfl, Nat.le_refl _, by unfold maxLen; omega, fun _ => ⟨_, 0, rfl, trivial, fun i hi t u ht => ?_⟩⟩
  have hi' : i = 0 := by simp at hi; omega
  subst hi'
  have ht' : t = 0 := by have := (List.getElem?_eq_some_iff.1 ht).1; simp [layI] at this; omega
  subst ht'
  have ht2 : u = .int .i64 n := by simpa [layI] using ht.symm
  rw [ht2]
  have hc := cell_new w (.cells #[.int .i64 n] 3 (0, 0))
  have h2 : (w.alloc (.cells #[.int .i64 n] 3 (0, 0))).cell? ⟨w.heap.size, 0, none⟩ = some (.int .i64 n) := by unfold World.cell?; rw [hc]; rfl
  exact h2
theorem IView.big {w : World} {S : Nat → Prop} {v : Value} {l : List Int} (h : IView w S v l) : l.length ≤ 9223372036854775807 := by
  obtain ⟨A, c, -, h1, h2⟩ := Rw.View.shape h
  unfold maxLen at h2; omega

theorem has_any (w : World) (S : Nat → Prop) (v : Value) (l : List Int) (n : Int) (hv : IView w S v l) :
    Calls Try.prog 22 #[v, .int .i64 n] w fun e w' => e = .returned (.bool (decide (n ∈ l))) ∧ w' = w := by
  have hbig := hv.big
  obtain ⟨A, c, rfl, -, -⟩ := Rw.View.shape hv
  replace hv := Lib.hid hv
  obtain ⟨q, hq⟩ : ∃ q, decide (n ∈ l) = q := ⟨_, rfl⟩
  have h0 : Hid (decide (n ∈ l.drop 0) = q) := Lib.hid hq
  rw [hq]
  clear hq
  go_enter Try.func22, Try.ntmps22
  go_wp2_with fail
  go_loopw [5] (fun ov wr => ∃ j : Nat, ov = .int .i64 (j : Int) ∧ j ≤ l.length ∧ Hid (decide (n ∈ l.drop j) = q) ∧ wr = w) (fun ov _ => l.length - (intOf ov).toNat)
  case atStart => exact ⟨0, rfl, Nat.zero_le _, h0, rfl⟩
  case round =>
    clear h0
    obtain ⟨j, rfl, hj, hg, rfl⟩ := hrel
    by_cases hlt : j < l.length
    · obtain ⟨b, off, rfl, -, -, hcells⟩ := IView.cells hv.out (by omega)
      have x0 := hcells j hlt
      have hyes := Lib.hid (fun h : l[j] = n => (show true = q by rw [← hg.out, List.drop_eq_getElem_cons hlt]; exact (decide_eq_true (List.mem_cons.2 (.inl h.symm))).symm))
      have hno := Lib.hid (fun h : l[j] ≠ n => (show decide (n ∈ l.drop (j + 1)) = q by rw [← hg.out, List.drop_eq_getElem_cons hlt]; exact decide_eq_decide.2 ⟨fun k => List.mem_cons_of_mem _ k, fun k => (List.mem_cons.1 k).resolve_left (Ne.symm h)⟩))
      obtain ⟨m, hm⟩ : ∃ m, l[j] = m := ⟨_, rfl⟩
      rw [hm] at x0 hyes hno
      clear hcells hm hg
      by_cases he : m = n
      · have hE := Lib.hid (hyes.out he)
        subst he
        clear hyes hno
        go_wp2_with fail
        go_ret
        exact ⟨Lb.ret_b hE.out, rfl⟩
      · have hG := Lib.hid (hno.out he)
        clear hyes hno
        go_wp2_with fail
        go_roundw
        case rel => exact ⟨j + 1, by go_num, hlt, hG, by first | rfl | trivial⟩
        case measure => simp [intOf]; omega
    · have hE : Hid (false = q) := Lib.hid (by rw [← hg.out, List.drop_eq_nil_of_le (by omega)]; rfl)
      clear hg hv
      go_wp2_with fail
      go_ret
      exact ⟨Lb.ret_b hE.out, rfl⟩

theorem drop_step {l m : List Int} {j : Nat} (ha : j < l.length) (hb : j < m.length) : l.drop j = m.drop j ↔ l[j] = m[j] ∧ l.drop (j + 1) = m.drop (j + 1) := by
  rw [List.drop_eq_getElem_cons ha, List.drop_eq_getElem_cons hb, List.cons.injEq]
theorem same_any (w : World) (S S' : Nat → Prop) (v u : Value) (l m : List Int) (hv : IView w S v l) (hu : IView w S' u m) :
    Calls Try.prog 8 #[v, u] w fun e w' => e = .returned (.bool (decide (l = m))) ∧ New0 w w' := by
  have hbig := hu.big
  obtain ⟨A, c, rfl, -, -⟩ := Rw.View.shape hv
  obtain ⟨A', c', rfl, -, -⟩ := Rw.View.shape hu
  replace hv := Lib.hid hv
  replace hu := Lib.hid hu
  by_cases hlen : l.length = m.length
  · obtain ⟨q, hq⟩ : ∃ q, decide (l = m) = q := ⟨_, rfl⟩
    have h0 : Hid (decide (l.drop 0 = m.drop 0) = q) := Lib.hid hq
    rw [hq]
    clear hq
    obtain ⟨n, hn⟩ : ∃ n, m.length = n := ⟨_, rfl⟩
    have hln : Hid (l.length = n) := Lib.hid (hlen.trans hn)
    have hmn : Hid (m.length = n) := Lib.hid hn
    rw [hlen, hn]
    rw [hn] at hbig
    clear hlen hn
    go_enter Try.func8, Try.ntmps8
    go_wp2_with fail
    go_loopw [5] (fun ov wr => ∃ j : Nat, ov = .int .i64 (j : Int) ∧ j ≤ n ∧ Hid (decide (l.drop j = m.drop j) = q) ∧ Hid (New0 w wr)) (fun ov _ => n - (intOf ov).toNat)
    case atStart => exact ⟨0, rfl, Nat.zero_le _, h0, Lib.hid (Upon.refl _ _)⟩
    case round =>
      clear h0
      obtain ⟨j, rfl, hj, hg, hw⟩ := hrel
      by_cases hlt : j < n
      · have hl1 : j < l.length := by have := hln.out; omega
        have hm1 : j < m.length := by have := hmn.out; omega
        obtain ⟨b, off, rfl, -, -, hcells⟩ := IView.cells hv.out (by omega)
        obtain ⟨b', off', rfl, -, -, hcells'⟩ := IView.cells hu.out (by omega)
        have x0 := Lb.New0.cells hw.out (hcells j hl1)
        have x1 := Lb.New0.cells hw.out (hcells' j hm1)
        have hstep := Lib.hid (drop_step hl1 hm1)
        obtain ⟨y, hy⟩ : ∃ y, l[j] = y := ⟨_, rfl⟩
        obtain ⟨z, hz⟩ : ∃ z, m[j] = z := ⟨_, rfl⟩
        rw [hy, hz] at hstep
        rw [hy] at x0
        rw [hz] at x1
        clear hcells hcells' hy hz
        by_cases he : y = z
        · subst he
          have hG : Hid (decide (l.drop (j + 1) = m.drop (j + 1)) = q) := Lib.hid (by rw [← hg.out]; congr 1; exact propext (by rw [hstep.out]; simp))
          clear hg hstep hl1 hm1
          go_wp2_with fail
          go_quiet (fail)
          have hw2 := Lib.hid (hw.out.trans (upon_drewN (fun _ => False) wr nq))
          go_wp2_with fail
          go_roundw
          case rel => exact ⟨j + 1, by go_num, hlt, hG, hw2⟩
          case measure => simp [intOf]; omega
        · have hE : Hid (false = q) := Lib.hid (by rw [← hg.out]; exact (decide_eq_false (fun h => he (hstep.out.1 h).1)).symm)
          clear hg hstep hl1 hm1
          go_wp2_with fail
          go_quiet (fail)
          have hw2 := Lib.hid (hw.out.trans (upon_drewN (fun _ => False) wr nq))
          go_wp2_with fail
          go_ret
          exact ⟨Lb.ret_b hE.out, hw2.out⟩
      · have hE : Hid (true = q) := Lib.hid (by rw [← hg.out, List.drop_eq_nil_of_le (by have := hln.out; omega), List.drop_eq_nil_of_le (by have := hmn.out; omega)]; rfl)
        clear hg hv hu
        go_wp2_with fail
        go_ret
        exact ⟨Lb.ret_b hE.out, hw.out⟩
  · have hE : Hid (false = decide (l = m)) := Lib.hid (decide_eq_false (fun h => hlen (by rw [h]))).symm
    have d : ((l.length : Int) != (m.length : Int)) = true := by rw [bne_iff_ne]; omega
    go_enter Try.func8, Try.ntmps8
    go_wp2_with fail
    go_ret
    exact ⟨Lb.ret_b hE.out, Upon.refl _ _⟩
end Po
end Go.Proofs.Ytklgdllllboipaa
