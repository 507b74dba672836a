/- What strings.Builder's methods do to a file of the disk (layer 4): a builder in a struct, written, read and written on; and (*file).cut. -/
import Derived.Test.YtfpphahdbhelcaaDiskKit
import Derived.Laws.Externs
import Derived.Laws.BitsLemmas
import Derived.Lib.Strings
import Derived.Lib.Slices
import Derived.Outline
namespace Go.Proofs.Ytfpphahdbhelcaa
open Go.RowKit
namespace Dsk
open Go.Maps

/-- The file in block f: a builder that holds l (its buffer in row r), of which n bytes last. -/
def FileAt (w : World) (f : Nat) (r : Option Nat) (l : Str) (n : Nat) : Prop :=
  ∃ p v, (p = .pointer none ∨ p = .pointer (some ⟨f, 0, none⟩)) ∧ w.heap[f]? = some (.cells #[p, v, .int .i64 (n : Int)] 66 (0, 0)) ∧ BufAt w v r l

theorem FileAt.lt {w : World} {f : Nat} {r : Option Nat} {l : Str} {n : Nat} (h : FileAt w f r l n) : f < w.heap.size := by
  obtain ⟨p, v, _, hb, _⟩ := h; exact (Array.getElem?_eq_some_iff.1 hb).1
theorem FileAt.ne {w : World} {f : Nat} {r : Option Nat} {l : Str} {n : Nat} (h : FileAt w f r l n) : r ≠ some f := by
  obtain ⟨p, v, _, hb, hv⟩ := h
  intro e
  obtain ⟨c, fz, hc⟩ := hv.type f e
  rw [hb] at hc
  simp at hc
theorem FileAt.row {w : World} {f : Nat} {r : Option Nat} {l : Str} {n : Nat} (h : FileAt w f r l n) : ∀ g, r = some g → g < w.heap.size := by
  obtain ⟨p, v, _, hb, hv⟩ := h; exact hv.lt
theorem FileAt.kept {w w' : World} {f : Nat} {r : Option Nat} {l : Str} {n : Nat} (h : FileAt w f r l n) (hf : w'.heap[f]? = w.heap[f]?) (hr : ∀ g, r = some g → w'.heap[g]? = w.heap[g]?) : FileAt w' f r l n := by
  obtain ⟨p, v, hp, hb, hv⟩ := h
  exact ⟨p, v, hp, hf.trans hb, hv.kept hr⟩

/-- What a call that writes to a file leaves. -/
structure Wrote (f : Nat) (r : Option Nat) (l : Str) (n : Nat) (w w' : World) : Prop where
  file : ∃ r', FileAt w' f r' l n ∧ (r' = r ∨ r' = none ∨ ∃ g, r' = some g ∧ w.heap.size ≤ g)
  upon : Upon (fun k => k = f ∨ some k = r) w w'

set_option maxHeartbeats 1000000 in
set_option maxRecDepth 100000 in
theorem check_used (f : Nat) (w : World) (h0 : w.cell? ⟨f, 0, none⟩ = some (.pointer (some ⟨f, 0, none⟩))) :
    Calls Try.prog 59 #[.pointer (some ⟨f, 0, none⟩)] w fun e w' => e = .returned (.tuple #[]) ∧ w = w' := by
  obtain ⟨j, hj, _⟩ := Option.map_eq_some_iff.1 (show (Try.prog.info? 64).map (fun i => i.size) = some 2 by kernel_rfl)
  have hq := Lib.hid (Lib.run_neq_ptr_same (P := Try.prog) w ⟨f, 0, none⟩ Try.underlying62 hj)
  go_enter Try.func59, Try.ntmps59
  go_wp2
  rw [hq.out]
  go_wp2
  go_end0
  exact ⟨rfl, rfl⟩

set_option maxHeartbeats 1000000 in
set_option maxRecDepth 100000 in
theorem check_fresh (f : Nat) (c : Array Value) (w : World) (hc : c.size = 3) (hb : w.heap[f]? = some (.cells c 66 (0, 0))) (h0 : c[0]? = some (.pointer none)) :
    Calls Try.prog 59 #[.pointer (some ⟨f, 0, none⟩)] w fun e w' => e = .returned (.tuple #[]) ∧ w.setCell ⟨f, 0, none⟩ (.pointer (some ⟨f, 0, none⟩)) = w' := by
  obtain ⟨j, hj, hjs⟩ := Option.map_eq_some_iff.1 (show (Try.prog.info? 64).map (fun i => i.size) = some 2 by kernel_rfl)
  have hsh : w.shape? f = some (66, 3) := by simp [World.shape?, hb, hc]
  have c0 : w.cell? ⟨f, 0, none⟩ = some (.pointer none) := by rw [Lib.cell_of_heap hb]; exact h0
  have f0 : w.frozen? ⟨f, 0, none⟩ = false := Lib.frozen_of_heap hb 0
  have lies : liesAt Try.prog Try.prog.depth 66 (3 / Try.prog.cellsOf 66) 0 64 1 = true := by kernel_rfl
  have h1 := Lib.hid (Lib.run_to_unsafe (P := Try.prog) w ⟨f, 0, none⟩ Try.underlying62 Try.underlying100 hj (by rw [hjs]; decide) hsh (by show (0 : Nat) < 3; omega))
  have h2 := Lib.hid (Lib.run_from_unsafe (P := Try.prog) w ⟨f, 0, none⟩ Try.underlying100 Try.underlying62 hj hsh lies)
  clear lies hsh hb h0 hjs hj hc
  go_enter Try.func59, Try.ntmps59
  go_wp2
  rw [h1.out]
  simp only [Result.andThen]
  rw [Oper.upon_value]
  go_wp2
  rw [run_callFunc_extern Try.func66 (by kernel_rfl) (by kernel_rfl) (by kernel_rfl) (e := Extern.AbiNoEscape.same) (by kernel_rfl)]
  rw [Lib.run_noEscape]
  simp only [Result.andThen]
  rw [Oper.upon_value]
  go_wp2
  rw [h2.out]
  simp only [Result.andThen]
  rw [Oper.upon_value]
  go_wp2
  go_end0
  exact ⟨rfl, rfl⟩

theorem set0 {w : World} {f : Nat} {p v x q : Value} {T : TypeId} (hb : w.heap[f]? = some (.cells #[p, v, x] T (0, 0))) : (w.setCell ⟨f, 0, none⟩ q).heap[f]? = some (.cells #[q, v, x] T (0, 0)) := by
  simp [World.setCell, Array.getElem?_modify, hb]
theorem set1 {w : World} {f : Nat} {p v x q : Value} {T : TypeId} (hb : w.heap[f]? = some (.cells #[p, v, x] T (0, 0))) : (w.setCell ⟨f, 1, none⟩ q).heap[f]? = some (.cells #[p, q, x] T (0, 0)) := by
  simp [World.setCell, Array.getElem?_modify, hb]
theorem set2' {w : World} {f : Nat} {p v x q : Value} {T : TypeId} (hb : w.heap[f]? = some (.cells #[p, v, x] T (0, 0))) : (w.setCell ⟨f, 2, none⟩ q).heap[f]? = some (.cells #[p, v, q] T (0, 0)) := by
  simp [World.setCell, Array.getElem?_modify, hb]

/-- copyCheck: behind it the builder holds its own address. -/
theorem check_any (f : Nat) (v x : Value) (p : Value) (w : World) (hp : p = .pointer none ∨ p = .pointer (some ⟨f, 0, none⟩)) (hb : w.heap[f]? = some (.cells #[p, v, x] 66 (0, 0))) :
    Calls Try.prog 59 #[.pointer (some ⟨f, 0, none⟩)] w fun e w' => e = .returned (.tuple #[]) ∧ w'.heap[f]? = some (.cells #[.pointer (some ⟨f, 0, none⟩), v, x] 66 (0, 0)) ∧ w.grownBy w' (some f) := by
  rcases hp with rfl | rfl
  · refine (check_fresh f _ w rfl hb rfl).mono ?_
    rintro e w' ⟨rfl, rfl⟩
    exact ⟨rfl, set0 hb, rfl, rfl, rfl, by simp [World.setCell], fun k _ hk => Below.heap_setCell _ _ _ _ (fun e => hk (by rw [e]))⟩
  · refine (check_used f w (by rw [Lib.cell_of_heap hb]; rfl)).mono ?_
    rintro e w' ⟨rfl, rfl⟩
    exact ⟨rfl, hb, rfl, rfl, rfl, Nat.le_refl _, fun _ _ _ => rfl⟩

set_option maxHeartbeats 1000000 in
theorem len_any (f : Nat) (r : Option Nat) (l : Str) (n : Nat) (w : World) (h : FileAt w f r l n) :
    Calls Try.prog 38 #[.pointer (some ⟨f, 0, none⟩)] w fun e w' => e = .returned (.int .i64 (l.length : Int)) ∧ w = w' := by
  obtain ⟨p, v, hp, hb, hv⟩ := h
  obtain ⟨a, c, rfl⟩ := hv.slice
  have c1 : w.cell? ⟨f, 1, none⟩ = some (.slice a l.length c) := by rw [Lib.cell_of_heap hb]; rfl
  clear hp hb hv
  go_enter Try.func38, Try.ntmps38
  go_wp2
  go_ret
  exact ⟨rfl, rfl⟩

set_option maxHeartbeats 2000000 in
theorem write_any (f : Nat) (r : Option Nat) (l : Str) (n : Nat) (s : ByteArray) (w : World) (h : FileAt w f r l n) (hlen : l.length + s.size ≤ 140737488355328) :
    Calls Try.prog 43 #[.pointer (some ⟨f, 0, none⟩), .string s] w fun e w' => e = .returned (.tuple #[.int .i64 s.size, .nilIface]) ∧ Wrote f r (l ++ s.data.toList) n w w' := by
  have hrf := h.ne
  obtain ⟨p, v, hp, hb, hv⟩ := h
  have hlt : f < w.heap.size := (Array.getElem?_eq_some_iff.1 hb).1
  have HC := Lib.hid (check_any f v _ p w hp hb)
  have HR := Lib.hid hrf
  have HB := Lib.hid hb
  have HV := Lib.hid hv
  clear hrf hb hv hp
  go_enter Try.func43, Try.ntmps43
  go_wp2_with fail
  refine HC.out.mono ?_
  rintro e w1 ⟨rfl, hb1, hg1⟩
  have c1 : w1.cell? ⟨f, 1, none⟩ = some v := by rw [Lib.cell_of_heap hb1]; rfl
  have hv1 : BufAt w1 v r l := HV.out.kept fun g hg => hg1.block g (HV.out.lt g hg) (fun e => HR.out (by rw [hg, e]))
  have HB1 := Lib.hid hb1
  have HG1 := Lib.hid hg1
  clear hb1 hg1
  go_wp2_with (at_builtin; refine wpList_buf_append _ rfl _ _ rfl v r l rfl hv1 s rfl hlen ?_)
  intro v' r' w2 hv2 hg2 hr'
  have hlt1 : f < w1.heap.size := Nat.lt_of_lt_of_le hlt HG1.out.size
  have hb2 : w2.heap[f]? = some (.cells #[.pointer (some ⟨f, 0, none⟩), v, .int .i64 (n : Int)] 66 (0, 0)) := (hg2.block f hlt1 (fun e => HR.out e.symm)).trans HB1.out
  have d1 : w2.cell? ⟨f, 1, none⟩ = some v := by rw [Lib.cell_of_heap hb2]; rfl
  have f1 : w2.frozen? ⟨f, 1, none⟩ = false := Lib.frozen_of_heap hb2 1
  obtain ⟨a', n', c', rfl⟩ : ∃ a m c, v' = .slice a m c := let ⟨a, c, e⟩ := hv2.slice; ⟨a, _, c, e⟩
  have H : Hid (Wrote f r (l ++ s.data.toList) n w (w2.setCell ⟨f, 1, none⟩ (.slice a' n' c'))) := Lib.hid (by
    have hne : r' ≠ some f := by
      intro e
      obtain ⟨c, fz, hc⟩ := hv2.type f e
      rw [hb2] at hc; simp at hc
    refine ⟨⟨r', ⟨_, _, .inr rfl, set1 hb2, hv2.kept fun g hg => Below.heap_setCell _ _ _ _ (fun e => hne (by rw [hg]; exact congrArg some e))⟩, ?_⟩, ?_⟩
    · rcases hr' with e | ⟨g, e, hg⟩
      · exact .inl e
      · exact .inr (.inr ⟨g, e, Nat.le_trans HG1.out.size hg⟩)
    · exact (((Upon.refl _ w).grown HG1.out (fun k hk => .inl (.inl (Option.some.inj hk).symm))).grown hg2 (fun k hk => .inl (.inr hk.symm))).setCell (.inl (.inl rfl)) _)
  clear hv2 hg2 hr' hb2 hv1
  go_wp2
  go_ret2
  exact ⟨rfl, H.out⟩

set_option maxHeartbeats 1000000 in
theorem reset_any (f : Nat) (r : Option Nat) (l : Str) (n : Nat) (w : World) (h : FileAt w f r l n) :
    Calls Try.prog 62 #[.pointer (some ⟨f, 0, none⟩)] w fun e w' => e = .returned (.tuple #[]) ∧ FileAt w' f none [] n ∧ Upon (fun k => k = f) w w' := by
  obtain ⟨p, v, hp, hb, hv⟩ := h
  have c0 : w.cell? ⟨f, 0, none⟩ = some p := by rw [Lib.cell_of_heap hb]; rfl
  have c1 : w.cell? ⟨f, 1, none⟩ = some v := by rw [Lib.cell_of_heap hb]; rfl
  have f0 : w.frozen? ⟨f, 0, none⟩ = false := Lib.frozen_of_heap hb 0
  have f1 : w.frozen? ⟨f, 1, none⟩ = false := Lib.frozen_of_heap hb 1
  obtain ⟨a, c, rfl⟩ := hv.slice
  have H : Hid (FileAt ((w.setCell ⟨f, 0, none⟩ (.pointer none)).setCell ⟨f, 1, none⟩ (.slice none 0 0)) f none [] n) := Lib.hid ⟨_, _, .inl rfl, set1 (set0 hb), BufAt.nil _⟩
  clear hb hv
  rcases hp with rfl | rfl
  all_goals
    go_enter Try.func62, Try.ntmps62
    go_wp2
    go_end0
    exact ⟨rfl, H.out, ((Upon.refl (fun k => k = f) w).setCell (p := ⟨f, 0, none⟩) (.inl rfl) _).setCell (p := ⟨f, 1, none⟩) (.inl rfl) _⟩

theorem freeze_other (w : World) (g n k : Nat) (h : k ≠ g) : (w.freeze ⟨g, 0, none⟩ n).heap[k]? = w.heap[k]? := by
  unfold World.freeze
  split
  · rfl
  · simp only [Array.getElem?_modify]; rw [if_neg (fun e => h e.symm)]

theorem BufAt.froze {w : World} {g c : Nat} {l : Str} (h : BufAt w (.slice (some ⟨g, 0, none⟩) l.length c) (some g) l) : BufAt (w.freeze ⟨g, 0, none⟩ l.length) (.slice (some ⟨g, 0, none⟩) l.length c) (some g) l := by
  obtain ⟨_, h1, h2⟩ := h
  refine ⟨rfl, h1, ?_⟩
  rcases h2 with ⟨hv, _⟩ | ⟨g', cap, cur, fz, hv, hb, hg, hfz, r⟩
  · cases hv
  · cases hv
    by_cases h0 : l.length = 0
    · refine .inr ⟨g, c, cur, fz, rfl, hb, ?_, hfz, r⟩
      unfold World.freeze; rw [if_pos h0]; exact hg
    · obtain ⟨lo, hi⟩ := fz
      refine .inr ⟨g, c, cur, (if lo == hi then (0, 0 + l.length) else (min lo 0, max hi (0 + l.length))), rfl, hb, ?_, ?_, r⟩
      · unfold World.freeze; rw [if_neg h0]; simp only [Array.getElem?_modify, hg, Option.map_some, if_true]
      · split
        · simp
        · simp only at hfz ⊢; omega
theorem unsafeNone (w : World) : (Builtin.unsafeString_ #[92, 3] 9 #[.pointer none, .int .i64 0]).run Try.prog w = .ok (.string ⟨#[]⟩) w := by kernel_rfl
theorem unsafeZero (w : World) (g : Nat) : (Builtin.unsafeString_ #[92, 3] 9 #[.pointer (some ⟨g, 0, none⟩), .int .i64 0]).run Try.prog w = .ok (.string ⟨#[]⟩) w := by kernel_rfl

set_option maxHeartbeats 2000000 in
set_option maxRecDepth 100000 in
theorem string_any (f : Nat) (r : Option Nat) (l : Str) (n : Nat) (w : World) (h : FileAt w f r l n) :
    Calls Try.prog 34 #[.pointer (some ⟨f, 0, none⟩)] w fun e w' => e = .returned (.string ⟨l.toArray⟩) ∧ FileAt w' f r l n ∧ Upon (fun k => some k = r) w w' := by
  have hlt := h.lt
  have hne := h.ne
  have h' := h
  obtain ⟨p, v, hp, hb, hv⟩ := h
  have hown := hv.2
  have hr := hv.1
  rcases hown.2 with ⟨rfl, h0⟩ | ⟨g, cap, cur, fz, rfl, hbg, hg, hfz, hnc, hcm, hcs, htake⟩
  · obtain rfl : l = [] := List.eq_nil_of_length_eq_zero h0
    have hUS := unsafeNone
    have c1 : w.drew.cell? ⟨f, 1, none⟩ = some (.slice none 0 0) := by
      have : w.drew.heap[f]? = _ := hb
      rw [Lib.cell_of_heap this]; rfl
    have hSD : (Builtin.unsafeSliceData_ #[54] 92 #[.slice none 0 0]).run Try.prog w.drew = .ok (.pointer none) w.drew := rfl
    have H := Lib.hid (And.intro (show FileAt w.drew f r [] n from h') (Upon.drew (Upon.refl (fun k => some k = r) w)))
    clear h' hb hv hown hr hp hne hlt
    go_enter Try.func34, Try.ntmps34
    go_wp2
    go_region
    all_goals (go_wp2; go_ret; exact ⟨rfl, H.out⟩)
  · by_cases hl : l = []
    · subst hl
      have hUS := unsafeZero
      by_cases hc0 : cap = 0
      · subst hc0
        have c1 : w.drew.cell? ⟨f, 1, none⟩ = some (.slice (some ⟨g, 0, none⟩) 0 0) := by
          have : w.drew.heap[f]? = _ := hb
          rw [Lib.cell_of_heap this]; rfl
        have hSD : (Builtin.unsafeSliceData_ #[54] 92 #[.slice (some ⟨g, 0, none⟩) 0 0]).run Try.prog w.drew = .ok (.pointer (some ⟨w.drew.heap.size, 0, none⟩)) (w.drew.alloc (.view ⟨g, 0, none⟩ 5)) :=
          Lib.run_unsafeSliceData_zero w.drew _ _ 5 Try.underlying92 ⟨g, 0, none⟩ 0 (5, cur.size) (by have hg' : w.drew.heap[g]? = some (.cells cur 5 fz) := hg; simp [World.shape?, hg'])
        have c2 : (w.drew.alloc (.view ⟨g, 0, none⟩ 5)).cell? ⟨f, 1, none⟩ = some (.slice (some ⟨g, 0, none⟩) 0 0) := by
          have : (w.drew.alloc (.view ⟨g, 0, none⟩ 5)).heap[f]? = _ := (Lib.alloc_old w.drew _ f hlt).trans hb
          rw [Lib.cell_of_heap this]; rfl
        have c3 : (w.alloc (.view ⟨g, 0, none⟩ 5)).drew.cell? ⟨f, 1, none⟩ = some (.slice (some ⟨g, 0, none⟩) 0 0) := c2
        have c0 : w.cell? ⟨f, 1, none⟩ = some (.slice (some ⟨g, 0, none⟩) 0 0) := c1
        have H := Lib.hid (And.intro (show FileAt (w.drew.alloc (.view ⟨g, 0, none⟩ 5)) f r [] n from h'.kept (Lib.alloc_old w.drew _ f hlt) (fun k hk => Lib.alloc_old w.drew _ k (h'.row k hk))) ((Upon.drew (Upon.refl (fun k => some k = r) w)).alloc (.view ⟨g, 0, none⟩ 5)))
        clear h' hb hv hown hr hp hne hlt
        go_enter Try.func34, Try.ntmps34
        go_wp2
        go_region
        all_goals (go_wp2; go_ret; exact ⟨rfl, H.out⟩)
      · have c1 : w.drew.cell? ⟨f, 1, none⟩ = some (.slice (some ⟨g, 0, none⟩) 0 cap) := by
          have : w.drew.heap[f]? = _ := hb
          rw [Lib.cell_of_heap this]; rfl
        have hSD : (Builtin.unsafeSliceData_ #[54] 92 #[.slice (some ⟨g, 0, none⟩) 0 cap]).run Try.prog w.drew = .ok (.pointer (some ⟨g, 0, none⟩)) w.drew :=
          Lib.run_unsafeSliceData_row _ _ _ _ _ _ hc0
        have H := Lib.hid (And.intro (show FileAt w.drew f r [] n from h') (Upon.drew (Upon.refl (fun k => some k = r) w)))
        clear h' hb hv hown hr hp hne hlt hc0
        go_enter Try.func34, Try.ntmps34
        go_wp2
        go_region
        all_goals (go_wp2; go_ret; exact ⟨rfl, H.out⟩)
    · have hl0 : l.length ≠ 0 := by simpa using hl
      obtain rfl : some g = r := hv.1
      have c1 : w.drew.cell? ⟨f, 1, none⟩ = some (.slice (some ⟨g, 0, none⟩) l.length cap) := by
        have : w.drew.heap[f]? = _ := hb
        rw [Lib.cell_of_heap this]; rfl
      have hSD : (Builtin.unsafeSliceData_ #[54] 92 #[.slice (some ⟨g, 0, none⟩) l.length cap]).run Try.prog w.drew = .ok (.pointer (some ⟨g, 0, none⟩)) w.drew :=
        Lib.run_unsafeSliceData_row _ _ _ _ _ _ (by omega)
      have hUS : (Builtin.unsafeString_ #[92, 3] 9 #[.pointer (some ⟨g, 0, none⟩), .int .i64 l.length]).run Try.prog w.drew = .ok (.string ⟨l.toArray⟩) (w.drew.freeze ⟨g, 0, none⟩ l.length) := by
        refine Lib.run_unsafeString_row w.drew 92 3 9 5 Try.underlying92 (by kernel_rfl) g cur.size (by have hg' : w.drew.heap[g]? = some (.cells cur 5 fz) := hg; simp [World.shape?, hg']) l hl (by omega) (by unfold maxLen at hcm; omega) ?_
        intro j x hx
        have := hown.cells (g := g) rfl j (.int .u8 x.toNat) (by simp [Lib.byteCells, hx])
        exact this
      have hvd : BufAt w.drew (.slice (some ⟨g, 0, none⟩) l.length cap) (some g) l := hv
      have H := Lib.hid (And.intro (show FileAt (w.drew.freeze ⟨g, 0, none⟩ l.length) f (some g) l n from ⟨p, _, hp, (freeze_other w.drew g l.length f (fun e => hne (by rw [e]))).trans hb, hvd.froze⟩) ((Upon.drew (Upon.refl (fun k => some k = some g) w)).freeze (p := ⟨g, 0, none⟩) rfl l.length))
      clear h' hb hv hown hr hp hne hlt hl hl0 hvd
      go_enter Try.func34, Try.ntmps34
      go_wp2
      go_region
      all_goals (go_wp2; go_ret; exact ⟨rfl, H.out⟩)

theorem take_extract (s : ByteArray) (m : Nat) : (s.extract 0 m).data.toList = s.data.toList.take m := by
  simp [ByteArray.data_extract]

set_option maxHeartbeats 2000000 in
set_option maxRecDepth 100000 in
/-- (*file).cut. -/
theorem cut_any (f : Nat) (r : Option Nat) (l : Str) (n m : Nat) (w : World) (h : FileAt w f r l n) (hm : m ≤ l.length) (hl : l.length ≤ 140737488355328) :
    Calls Try.prog 47 #[.pointer (some ⟨f, 0, none⟩), .int .i64 (m : Int)] w fun e w' => e = .returned (.tuple #[]) ∧ Wrote f r (l.take m) m w w' := by
  have HF := Lib.hid h
  have h2 : ∀ (w' : World) (r' : Option Nat) (l' : Str), FileAt w' f r' l' n → w'.frozen? ⟨f, 2, none⟩ = false ∧ FileAt (w'.setCell ⟨f, 2, none⟩ (.int .i64 (m : Int))) f r' l' m := by
    intro w' r' l' h'
    have hne := h'.ne
    obtain ⟨p, v, hp, hb, hv⟩ := h'
    exact ⟨Lib.frozen_of_heap hb 2, p, v, hp, set2' hb, hv.kept fun g hg => Below.heap_setCell _ _ _ _ (fun e => hne (by rw [hg]; exact congrArg some e))⟩
  have c2 : ∀ (w' : World) (r' : Option Nat) (l' : Str), FileAt w' f r' l' n → w'.cell? ⟨f, 2, none⟩ = some (.int .i64 (n : Int)) := by
    intro w' r' l' h'
    obtain ⟨p, v, hp, hb, hv⟩ := h'
    rw [Lib.cell_of_heap hb]; rfl
  have H2 := Lib.hid h2
  have HC := Lib.hid c2
  have HL := Lib.hid (len_any f r l n w h)
  clear h h2 c2
  by_cases hlt : m < l.length
  · have hdec : decide ((m : Int) < (l.length : Int)) = true := by simpa using hlt
    go_enter Try.func47, Try.ntmps47
    go_wp2_with fail
    refine HL.out.mono ?_
    rintro e w1 ⟨rfl, rfl⟩
    go_wp2_with fail
    refine (string_any f r l n w HF.out).mono ?_
    rintro e w1 ⟨rfl, hf1, hu1⟩
    have HF1 := Lib.hid hf1
    have HU1 := Lib.hid hu1
    clear hf1 hu1
    obtain ⟨s, hs⟩ : ∃ s : ByteArray, s = ⟨l.toArray⟩ := ⟨_, rfl⟩
    have hsz : s.size = l.length := by rw [hs]; rfl
    have hle : m ≤ s.size := by omega
    have HS := Lib.hid (show (s.extract 0 m).data.toList = l.take m by rw [take_extract, hs])
    have HZ := Lib.hid (show (s.extract 0 m).size ≤ l.length by simp [ByteArray.size_extract]; omega)
    rw [← hs]
    clear hs hsz
    go_wp2_with fail
    refine (reset_any f r l n w1 HF1.out).mono ?_
    rintro e w2 ⟨rfl, hf2, hu2⟩
    have HF2 := Lib.hid hf2
    have HU2 := Lib.hid hu2
    clear hf2 hu2
    go_wp2_with fail
    refine (write_any f none [] n _ w2 HF2.out (by have := HZ.out; simp; omega)).mono ?_
    rintro e w3 ⟨rfl, hw3⟩
    obtain ⟨⟨r', hf3, hr'⟩, hu3⟩ := hw3
    rw [List.nil_append, HS.out] at hf3
    obtain ⟨f3, HF4⟩ := H2.out _ _ _ hf3
    have c3 := HC.out _ _ _ hf3
    replace HF4 := Lib.hid HF4
    have HR := Lib.hid hr'
    have HU3 := Lib.hid hu3
    clear hf3 hr' hu3
    go_wp2_with fail
    go_end0
    refine ⟨rfl, ⟨r', HF4.out, ?_⟩, ?_⟩
    · rcases HR.out with e | e | ⟨g, e, hg⟩
      · exact .inr (.inl e)
      · exact .inr (.inl e)
      · exact .inr (.inr ⟨g, e, Nat.le_trans HU1.out.size (Nat.le_trans HU2.out.size hg)⟩)
    · refine (((HU1.out.mono fun i _ hi => .inr hi).trans (HU2.out.mono fun i _ hi => .inl hi)).trans (HU3.out.mono fun i _ hi => ?_)).setCell (p := ⟨f, 2, none⟩) (.inl (.inl rfl)) _
      rcases hi with e | e
      · exact .inl e
      · cases e
  · have hdec : decide ((m : Int) < (l.length : Int)) = false := by simpa using hlt
    obtain rfl : m = l.length := by omega
    obtain ⟨f3, HF4⟩ := H2.out _ _ _ HF.out
    have c3 := HC.out _ _ _ HF.out
    replace HF4 := Lib.hid HF4
    clear hdec
    go_enter Try.func47, Try.ntmps47
    go_wp2_with fail
    refine HL.out.mono ?_
    rintro e w1 ⟨rfl, rfl⟩
    go_wp2_with fail
    go_end0
    exact ⟨rfl, ⟨r, by rw [List.take_length]; exact HF4.out, .inl rfl⟩, (Upon.refl (fun k => k = f ∨ some k = r) w).setCell (p := ⟨f, 2, none⟩) (.inl (.inl rfl)) _⟩
end Dsk
end Go.Proofs.Ytfpphahdbhelcaa
