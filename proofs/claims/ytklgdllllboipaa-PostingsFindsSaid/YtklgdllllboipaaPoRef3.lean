/- The document's own And, Or, Less (layer 14). -/
import Derived.Test.YtklgdllllboipaaPoRef2
set_option maxRecDepth 100000
namespace Go.Proofs.Ytklgdllllboipaa
open Go.RowKit Go.Sort
namespace Po
open Bit Dsk Ob Dig
set_option linter.unusedVariables false
/-- A rising list of those of whom P. -/
def SetE (w : World) (P : Int → Prop) (N : Nat) (e : Ending) (w' : World) : Prop :=
  ∃ v r, e = .returned v ∧ IView w' All v r ∧ Up r ∧ (∀ x, x ∈ r ↔ P x) ∧ r.length ≤ N ∧ New0 w w'
/-- What a loop has gathered. -/
structure SoFar (w wr : World) (u : Value) (r : List Int) (P : Int → Prop) (N : Nat) : Prop where
  view : IView wr All u r
  up : Up r
  mem : ∀ x, x ∈ r ↔ P x
  len : r.length ≤ N
  new : New0 w wr
theorem SoFar.none (w : World) {P : Int → Prop} {N : Nat} (h : ∀ x, ¬ P x) : SoFar w w (.slice none 0 0) [] P N :=
  ⟨Rw.View.noth _ _ _, List.Pairwise.nil, fun x => ⟨fun h => absurd h (by simp), fun k => absurd k (h x)⟩, Nat.zero_le _, Upon.refl _ _⟩
theorem SoFar.turn {w wr w' : World} {u : Value} {r : List Int} {P : Int → Prop} {N : Nat} (h : SoFar w wr u r P N) (hu : New0 wr w') : SoFar w w' u r P N :=
  ⟨Rw.View.new h.view hu, h.up, h.mem, h.len, h.new.trans hu⟩
theorem SoFar.same {w wr : World} {u : Value} {r : List Int} {P P' : Int → Prop} {N N' : Nat} (h : SoFar w wr u r P N) (hP : ∀ x, P x ↔ P' x) (hN : N ≤ N') : SoFar w wr u r P' N' :=
  ⟨h.view, h.up, fun x => (h.mem x).trans (hP x), Nat.le_trans h.len hN, h.new⟩
theorem SoFar.put {w wr w' : World} {u v : Value} {r r' : List Int} {P P' : Int → Prop} {N : Nat} {n : Int} (h : SoFar w wr u r P N) (hv : IView w' All v r') (hup : Up r') (hm : ∀ x, x ∈ r' ↔ x = n ∨ x ∈ r) (hl : r'.length ≤ r.length + 1) (hu : New0 wr w') (hP : ∀ x, P' x ↔ x = n ∨ P x) : SoFar w w' v r' P' (N + 1) :=
  ⟨hv, hup, fun x => (hm x).trans (by rw [hP, h.mem]), by have := h.len; omega, h.new.trans hu⟩
theorem SoFar.out {w wr : World} {u : Value} {r : List Int} {P P' : Int → Prop} {N N' : Nat} (h : SoFar w wr u r P N) (hP : ∀ x, P x ↔ P' x) (hN : N ≤ N') : SetE w P' N' (.returned u) wr :=
  ⟨u, r, rfl, h.view, h.up, fun x => (h.mem x).trans (hP x), Nat.le_trans h.len hN, h.new⟩
theorem take_step {l : List Int} {j : Nat} (h : j < l.length) (x : Int) : x ∈ l.take (j + 1) ↔ x = l[j] ∨ x ∈ l.take j := by
  rw [List.take_add_one, List.getElem?_eq_getElem h, List.mem_append]
  exact ⟨fun h => h.elim .inr (fun h => .inl (by simpa using h)), fun h => h.elim (fun h => .inr (by simp [h])) .inl⟩
set_option maxHeartbeats 1600000 in
theorem refand_any (w : World) (v u : Value) (l m : List Int) (hv : IView w All v l) (hu : IView w All u m) (hl : l.length ≤ 900000) :
    Calls Try.prog 10 #[v, u] w fun e w' => SetE w (fun x => x ∈ l ∧ x ∈ m) l.length e w' := by
  have HP := Lib.hid (fun w v r n h1 h2 h3 => put_any w v r n h1 h2 h3)
  have HH := Lib.hid (fun w' (h : New0 w w') n => has_any w' All u m n (Rw.View.new hu h))
  obtain ⟨A, c, rfl, -, -⟩ := Rw.View.shape hv
  obtain ⟨A', c', rfl, -, -⟩ := Rw.View.shape hu
  replace hv := Lib.hid hv
  clear hu
  go_enter Try.func10, Try.ntmps10
  go_wp2_with fail
  go_loopw [5, 6] (fun uv ov wr => ∃ (j : Nat) (r : List Int), ov = .int .i64 (j : Int) ∧ j ≤ l.length ∧ Hid (SoFar w wr uv r (fun x => x ∈ l.take j ∧ x ∈ m) j)) (fun _ ov _ => l.length - (intOf ov).toNat)
  case atStart => exact ⟨0, [], rfl, Nat.zero_le _, Lib.hid (SoFar.none w (fun x h => by simp at h))⟩
  case round =>
    obtain ⟨j, r, rfl, hj, hg⟩ := hrel
    by_cases hlt : j < l.length
    · obtain ⟨b, off, rfl, -, -, hcells⟩ := IView.cells hv.out (by omega)
      have x0 := Lb.New0.cells hg.out.new (hcells j hlt)
      have HN := Lib.hid (HH.out wr hg.out.new l[j])
      have hrl : r.length ≤ 1000000 := by have := hg.out.len; omega
      have HQ := Lib.hid (HP.out wr _ r l[j] hg.out.view hrl hg.out.up)
      have hyes : Hid ((l[j] ∈ m) → ∀ x, (x ∈ l.take (j + 1) ∧ x ∈ m) ↔ x = l[j] ∨ (x ∈ l.take j ∧ x ∈ m)) := Lib.hid (fun h x => by
        rw [take_step hlt]
        constructor
        · rintro ⟨h1 | h1, h2⟩
          · exact .inl h1
          · exact .inr ⟨h1, h2⟩
        · rintro (h1 | ⟨h1, h2⟩)
          · subst h1; exact ⟨.inl rfl, h⟩
          · exact ⟨.inr h1, h2⟩)
      have hno : Hid (¬ (l[j] ∈ m) → ∀ x, (x ∈ l.take j ∧ x ∈ m) ↔ (x ∈ l.take (j + 1) ∧ x ∈ m)) := Lib.hid (fun h x => by
        rw [take_step hlt]
        constructor
        · rintro ⟨h1, h2⟩; exact ⟨.inr h1, h2⟩
        · rintro ⟨h1 | h1, h2⟩
          · subst h1; exact absurd h2 h
          · exact ⟨h1, h2⟩)
      obtain ⟨y, hy⟩ : ∃ y, l[j] = y := ⟨_, rfl⟩
      rw [hy] at x0 HN HQ hyes hno
      clear hcells hy hrl
      by_cases hin : y ∈ m
      · rw [decide_eq_true hin] at HN
        have hP := Lib.hid (hyes.out hin)
        clear hyes hno hin
        go_wp2_with fail
        refine HN.out.mono ?_
        rintro e w2 ⟨rfl, rfl⟩
        clear HN
        go_wp2_with fail
        refine HQ.out.mono ?_
        rintro e w2 ⟨v2, r2, rfl, p1, p2, p3, p4, p5⟩
        have hG := Lib.hid (hg.out.put p1 p2 p3 p4 p5 hP.out)
        clear HQ p1 p2 p3 p4 p5 hP hg x0
        go_wp2_with fail
        go_roundw
        case rel => exact ⟨j + 1, r2, by go_num, hlt, hG⟩
        case measure => simp [intOf]; omega
      · rw [decide_eq_false hin] at HN
        have hG := Lib.hid (hg.out.same (hno.out hin) (Nat.le_succ j))
        clear hyes hno hin HQ
        go_wp2_with fail
        refine HN.out.mono ?_
        rintro e w2 ⟨rfl, rfl⟩
        clear HN
        go_wp2_with fail
        go_roundw
        case rel => exact ⟨j + 1, r, by go_num, hlt, hG⟩
        case measure => simp [intOf]; omega
    · have hE := Lib.hid (hg.out.out (P' := fun x => x ∈ l ∧ x ∈ m) (N' := l.length) (fun x => by rw [List.take_of_length_le (by omega)]) hj)
      clear hg hv HP HH
      go_wp2_with fail
      go_ret
      exact hE.out
set_option maxHeartbeats 1600000 in
theorem refless_any (w : World) (v u : Value) (l m : List Int) (hv : IView w All v l) (hu : IView w All u m) (hl : l.length ≤ 900000) :
    Calls Try.prog 14 #[v, u] w fun e w' => SetE w (fun x => x ∈ l ∧ ¬ x ∈ m) l.length e w' := by
  have HP := Lib.hid (fun w v r n h1 h2 h3 => put_any w v r n h1 h2 h3)
  have HH := Lib.hid (fun w' (h : New0 w w') n => has_any w' All u m n (Rw.View.new hu h))
  obtain ⟨A, c, rfl, -, -⟩ := Rw.View.shape hv
  obtain ⟨A', c', rfl, -, -⟩ := Rw.View.shape hu
  replace hv := Lib.hid hv
  clear hu
  go_enter Try.func14, Try.ntmps14
  go_wp2_with fail
  go_loopw [5, 6] (fun uv ov wr => ∃ (j : Nat) (r : List Int), ov = .int .i64 (j : Int) ∧ j ≤ l.length ∧ Hid (SoFar w wr uv r (fun x => x ∈ l.take j ∧ ¬ x ∈ m) j)) (fun _ ov _ => l.length - (intOf ov).toNat)
  case atStart => exact ⟨0, [], rfl, Nat.zero_le _, Lib.hid (SoFar.none w (fun x h => by simp at h))⟩
  case round =>
    obtain ⟨j, r, rfl, hj, hg⟩ := hrel
    by_cases hlt : j < l.length
    · obtain ⟨b, off, rfl, -, -, hcells⟩ := IView.cells hv.out (by omega)
      have x0 := Lb.New0.cells hg.out.new (hcells j hlt)
      have HN := Lib.hid (HH.out wr hg.out.new l[j])
      have hrl : r.length ≤ 1000000 := by have := hg.out.len; omega
      have HQ := Lib.hid (HP.out wr _ r l[j] hg.out.view hrl hg.out.up)
      have hyes : Hid ((¬ l[j] ∈ m) → ∀ x, (x ∈ l.take (j + 1) ∧ ¬ x ∈ m) ↔ x = l[j] ∨ (x ∈ l.take j ∧ ¬ x ∈ m)) := Lib.hid (fun h x => by
        rw [take_step hlt]
        constructor
        · rintro ⟨h1 | h1, h2⟩
          · exact .inl h1
          · exact .inr ⟨h1, h2⟩
        · rintro (h1 | ⟨h1, h2⟩)
          · subst h1; exact ⟨.inl rfl, h⟩
          · exact ⟨.inr h1, h2⟩)
      have hno : Hid (¬ (¬ l[j] ∈ m) → ∀ x, (x ∈ l.take j ∧ ¬ x ∈ m) ↔ (x ∈ l.take (j + 1) ∧ ¬ x ∈ m)) := Lib.hid (fun h x => by
        rw [take_step hlt]
        constructor
        · rintro ⟨h1, h2⟩; exact ⟨.inr h1, h2⟩
        · rintro ⟨h1 | h1, h2⟩
          · subst h1; exact absurd h2 h
          · exact ⟨h1, h2⟩)
      obtain ⟨y, hy⟩ : ∃ y, l[j] = y := ⟨_, rfl⟩
      rw [hy] at x0 HN HQ hyes hno
      clear hcells hy hrl
      by_cases hin : y ∈ m
      · rw [decide_eq_true hin] at HN
        have hG := Lib.hid (hg.out.same (hno.out (not_not_intro hin)) (Nat.le_succ j))
        clear hyes hno hin HQ
        go_wp2_with fail
        refine HN.out.mono ?_
        rintro e w2 ⟨rfl, rfl⟩
        clear HN
        go_wp2_with fail
        go_roundw
        case rel => exact ⟨j + 1, r, by go_num, hlt, hG⟩
        case measure => simp [intOf]; omega
      · rw [decide_eq_false hin] at HN
        have hP := Lib.hid (hyes.out hin)
        clear hyes hno hin
        go_wp2_with fail
        refine HN.out.mono ?_
        rintro e w2 ⟨rfl, rfl⟩
        clear HN
        go_wp2_with fail
        refine HQ.out.mono ?_
        rintro e w2 ⟨v2, r2, rfl, p1, p2, p3, p4, p5⟩
        have hG := Lib.hid (hg.out.put p1 p2 p3 p4 p5 hP.out)
        clear HQ p1 p2 p3 p4 p5 hP hg x0
        go_wp2_with fail
        go_roundw
        case rel => exact ⟨j + 1, r2, by go_num, hlt, hG⟩
        case measure => simp [intOf]; omega
    · have hE := Lib.hid (hg.out.out (P' := fun x => x ∈ l ∧ ¬ x ∈ m) (N' := l.length) (fun x => by rw [List.take_of_length_le (by omega)]) hj)
      clear hg hv HP HH
      go_wp2_with fail
      go_ret
      exact hE.out
set_option maxHeartbeats 1600000 in
theorem refor_any (w : World) (v u : Value) (l m : List Int) (hv : IView w All v l) (hu : IView w All u m) (hl : l.length ≤ 400000) (hm : m.length ≤ 400000) :
    Calls Try.prog 12 #[v, u] w fun e w' => SetE w (fun x => x ∈ l ∨ x ∈ m) (l.length + m.length) e w' := by
  have HP := Lib.hid (fun w v r n h1 h2 h3 => put_any w v r n h1 h2 h3)
  obtain ⟨A, c, rfl, -, -⟩ := Rw.View.shape hv
  obtain ⟨A', c', rfl, -, -⟩ := Rw.View.shape hu
  replace hv := Lib.hid hv
  replace hu := Lib.hid hu
  go_enter Try.func12, Try.ntmps12
  go_wp2_with fail
  go_loopw [5, 6] (fun uv ov wr => ∃ (j : Nat) (r : List Int), ov = .int .i64 (j : Int) ∧ j ≤ l.length ∧ Hid (SoFar w wr uv r (fun x => x ∈ l.take j) j)) (fun _ ov _ => l.length - (intOf ov).toNat)
  case atStart => exact ⟨0, [], rfl, Nat.zero_le _, Lib.hid (SoFar.none w (fun x h => by simp at h))⟩
  case round =>
    obtain ⟨j, r, rfl, hj, hg⟩ := hrel
    by_cases hlt : j < l.length
    · obtain ⟨b, off, rfl, -, -, hcells⟩ := IView.cells hv.out (by omega)
      have x0 := Lb.New0.cells hg.out.new (hcells j hlt)
      have hrl : r.length ≤ 1000000 := by have := hg.out.len; omega
      have HQ := Lib.hid (HP.out wr _ r l[j] hg.out.view hrl hg.out.up)
      have hP := Lib.hid (fun x => take_step hlt x)
      obtain ⟨y, hy⟩ : ∃ y, l[j] = y := ⟨_, rfl⟩
      rw [hy] at x0 HQ hP
      clear hcells hy hrl
      go_wp2_with fail
      refine HQ.out.mono ?_
      rintro e w2 ⟨v2, r2, rfl, p1, p2, p3, p4, p5⟩
      have hG := Lib.hid (hg.out.put p1 p2 p3 p4 p5 hP.out)
      clear HQ p1 p2 p3 p4 p5 hP hg x0
      go_wp2_with fail
      go_roundw
      case rel => exact ⟨j + 1, r2, by go_num, hlt, hG⟩
      case measure => simp [intOf]; omega
    · have h0 := Lib.hid (hg.out.same (P' := fun x => x ∈ l ∨ x ∈ m.take 0) (N' := l.length + 0) (fun x => by rw [List.take_of_length_le (by omega)]; simp) hj)
      have hml : m.length ≤ 9223372036854775807 := by omega
      clear hg hv
      go_wp2_with fail
      clear hj hlt
      go_loopw [5, 7] (fun uv ov wr => ∃ (j : Nat) (r : List Int), ov = .int .i64 (j : Int) ∧ j ≤ m.length ∧ Hid (SoFar w wr uv r (fun x => x ∈ l ∨ x ∈ m.take j) (l.length + j))) (fun _ ov _ => m.length - (intOf ov).toNat)
      case atStart => exact ⟨0, _, rfl, Nat.zero_le _, h0⟩
      case round =>
        clear h0
        obtain ⟨i, r', rfl, hi, hg⟩ := hrel
        by_cases hlt : i < m.length
        · obtain ⟨b, off, rfl, -, -, hcells⟩ := IView.cells hu.out (by omega)
          have x0 := Lb.New0.cells hg.out.new (hcells i hlt)
          have hrl : r'.length ≤ 1000000 := by have := hg.out.len; omega
          have HQ := Lib.hid (HP.out _ _ r' m[i] hg.out.view hrl hg.out.up)
          have hP : Hid (∀ x, (x ∈ l ∨ x ∈ m.take (i + 1)) ↔ x = m[i] ∨ (x ∈ l ∨ x ∈ m.take i)) := Lib.hid (fun x => by rw [take_step hlt x]; constructor <;> (rintro (h | h | h) <;> simp [h]))
          obtain ⟨y, hy⟩ : ∃ y, m[i] = y := ⟨_, rfl⟩
          rw [hy] at x0 HQ hP
          clear hcells hy hrl
          go_wp2_with fail
          refine HQ.out.mono ?_
          rintro e w2 ⟨v2, r2, rfl, p1, p2, p3, p4, p5⟩
          have hG := Lib.hid (hg.out.put p1 p2 p3 p4 p5 hP.out)
          clear HQ p1 p2 p3 p4 p5 hP hg x0
          go_wp2_with fail
          go_roundw
          case rel => exact ⟨i + 1, r2, by go_num, hlt, hG⟩
          case measure => simp [intOf]; omega
        · have hE := Lib.hid (hg.out.out (P' := fun x => x ∈ l ∨ x ∈ m) (N' := l.length + m.length) (fun x => by rw [List.take_of_length_le (by omega)]) (by omega))
          clear hg hu HP
          go_wp2_with fail
          go_ret
          exact hE.out
end Po
end Go.Proofs.Ytklgdllllboipaa
