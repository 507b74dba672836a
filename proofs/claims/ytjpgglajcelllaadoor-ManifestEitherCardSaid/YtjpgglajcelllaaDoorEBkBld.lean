/- A strings.Builder of the call's own (layer 15): written, read, written on; its blocks are told. -/
import Derived.Lib.FrozenHead
import Derived.Lib.Hide
import Derived.Laws.Externs
import Derived.Laws.BitsLemmas
import Derived.Lib.Strings
import Derived.Lib.Slices
import Derived.WalkKit
import Derived.WalkSpells
import Derived.WalkLawsBesides
import Derived.Test.YtjpgglajcelllaaDoorEPDig
import Derived.Test.YtjpgglajcelllaaDoorEPBit3
set_option maxRecDepth 100000
namespace Go.Proofs.YtjpgglajcelllaaDoor
open Go.RowKit
namespace Bk
open Bit Dsk Ob Dig
set_option linter.unusedVariables false
/-! ### a buffer of bytes -/
/-- The slice v holds the bytes l, in row r (none: nil). -/
def BufB (w : World) (v : Value) (r : Option Nat) (l : List UInt8) : Prop := v.ownBlock = r ∧ w.ownsRowF 0 5 1 v l.length (Lib.byteCells l)
theorem BufB.nil (w : World) : BufB w (.slice none 0 0) none [] := ⟨rfl, World.ownsRowF_nil _ _ _ _⟩
theorem BufB.lt {w : World} {v : Value} {r : Option Nat} {l : List UInt8} (h : BufB w v r l) : ∀ g, r = some g → g < w.heap.size := fun g hg => (h.2.lt g (h.1.trans hg)).2
theorem BufB.kept {w w' : World} {v : Value} {r : Option Nat} {l : List UInt8} (h : BufB w v r l) (hk : ∀ g, r = some g → w'.heap[g]? = w.heap[g]?) : BufB w' v r l := by
  refine ⟨h.1, h.2.1, ?_⟩
  rcases h.2.2 with hn | ⟨g, cap, cur, fz, rfl, hb, hg, r⟩
  · exact .inl hn
  · exact .inr ⟨g, cap, cur, fz, rfl, hb, (hk g h.1.symm).trans hg, r⟩
theorem BufB.type {w : World} {v : Value} {r : Option Nat} {l : List UInt8} (h : BufB w v r l) : ∀ g, r = some g → ∃ c fz, w.heap[g]? = some (.cells c 5 fz) := by
  intro g hg
  rcases h.2.2 with ⟨rfl, _⟩ | ⟨g', cap, cur, fz, rfl, hb, hgg, _⟩
  · rw [← h.1] at hg; simp [Value.ownBlock] at hg
  · rw [← h.1] at hg; simp [Value.ownBlock] at hg; subst hg; exact ⟨_, _, hgg⟩
theorem BufB.slice {w : World} {v : Value} {r : Option Nat} {l : List UInt8} (h : BufB w v r l) : ∃ a c, v = .slice a l.length c := by
  rcases h.2.2 with ⟨hv, h0⟩ | ⟨g, cap, cur, fz, hv, _⟩
  · exact ⟨none, 0, by rw [hv, h0]⟩
  · exact ⟨_, _, hv⟩
theorem binfo : (Tryd.prog.info? 5).map (fun i => (i.zero, i.size, i.bytes)) = some (some (.int .u8 0), 1, 1) := by kernel_rfl
theorem cells_app (l : List UInt8) (s : ByteArray) : Lib.byteCells l ++ Lib.strCells s = Lib.byteCells (l ++ s.data.toList) := by
  simp [Lib.byteCells, Lib.strCells]
theorem run_buf_append (w : World) (v : Value) (r : Option Nat) (l : List UInt8) (h : BufB w v r l) (s : ByteArray) (hlen : l.length + s.size ≤ 140737488355328) (ty : TypeId) :
    ∃ v' r' w', (Builtin.append_ #[98, 9] ty #[v, .string s]).run Tryd.prog w = .ok v' w' ∧ BufB w' v' r' (l ++ s.data.toList) ∧ w.grownBy w' r ∧ (r' = r ∨ ∃ g, r' = some g ∧ w.heap.size ≤ g) := by
  obtain ⟨i0, hi, hz0, hz1, hz2⟩ := info_parts binfo
  have hm : l.length + s.size ≤ maxLen := by unfold maxLen; omega
  have hlen2 : (l ++ s.data.toList).length = l.length + s.size := by simp
  obtain ⟨rfl, hown⟩ := h
  rcases hown.2 with ⟨rfl, h0⟩ | ⟨g, cap, cur, fz, rfl, hbg, hg, hfz, hnc, hcm, hcs, htake⟩
  · have hl : l = [] := List.eq_nil_of_length_eq_zero h0
    subst hl
    obtain ⟨v', w', h1, h2, h3, _⟩ := Lib.run_append_own_stringF (P := Tryd.prog) w w.heap.size 98 9 ty 5 i0 Tryd.underlying98 Tryd.underlying9 hi hz0 hz1 hz2 (.slice none 0 0) 0 [] (World.ownsRowF_nil _ _ _ _) s (by simpa using hm) (by simpa using hlen) (Nat.le_refl _)
    refine ⟨v', v'.ownBlock, w', h1, ⟨rfl, ?_, ?_⟩, h3, ?_⟩
    · simp [Lib.byteCells]
    · rcases h2.2 with ⟨hv, hn⟩ | ⟨g, cap, cur, fz, hv, _, r1, r2, r3, r4, r5, r6⟩
      · exact .inl ⟨hv, by simpa using hn⟩
      · refine .inr ⟨g, cap, cur, fz, ?_, Nat.zero_le _, r1, ?_, ?_, r4, r5, ?_⟩
        · rw [hv]; simp
        · simpa using r2
        · simpa using r3
        · have e := cells_app [] s; simp [Lib.byteCells] at e r6 ⊢; simpa [Lib.strCells] using r6
    · cases hv : v'.ownBlock with
      | none => exact .inl rfl
      | some g => exact .inr ⟨g, rfl, (h2.lt g hv).1⟩
  · by_cases hroom : l.length + s.size ≤ cap
    · have hcs' : cur.size = cap := by simpa using hcs
      have hr := Lib.run_append_room_stringF (P := Tryd.prog) w 98 9 ty 5 i0 Tryd.underlying98 Tryd.underlying9 hi hz1 g l.length cap cur fz hg (by simpa using hfz) s hroom (by omega)
      refine ⟨_, some g, _, hr, ⟨rfl, ?_, .inr ⟨g, cap, _, fz, ?_, Nat.zero_le _, setRow_heap w g cur _ _ _ hg, ?_, by omega, hcm, ?_, ?_⟩⟩, ⟨rfl, rfl, rfl, by simp, fun k _ hk => setRow_other w g k _ (fun e => hk (by simp [Value.ownBlock, e]))⟩, .inl rfl⟩
      · simp [Lib.byteCells]
      · rw [hlen2]
      · rw [hlen2]; omega
      · simp only [List.size_toArray, List.length_append, List.length_take, List.length_drop, Array.length_toList, Lib.strCells_length]
        omega
      · have ht' : cur.toList.take l.length = Lib.byteCells l := by simpa using htake
        rw [ht', ← cells_app]
        have e : (l ++ s.data.toList).length * 1 = (Lib.byteCells l ++ Lib.strCells s).length := by simp [Lib.byteCells, Lib.strCells]
        rw [e]
        exact List.take_left
    · have holds : ∀ j u, (Lib.byteCells l)[j]? = some u → w.cell? ((⟨g, 0, none⟩ : Addr).add j) = some u := hown.cells (g := g) rfl
      have hr := Lib.run_append_grow_string (P := Tryd.prog) w 98 9 ty 5 i0 (.int .u8 0) Tryd.underlying98 Tryd.underlying9 hi hz0 ⟨g, 0, none⟩ l.length cap (Lib.byteCells l) (by rw [hz1]; simp [Lib.byteCells]) holds s (by omega) (by unfold maxLen at hm; omega) (by rw [hz2]; exact growslice_fits (by omega) (by omega))
      have hge := grownCap_ge w (l.length + s.size) cap 5
      have hcm2 : grownCap w (l.length + s.size) cap 5 ≤ maxLen := grownCap_le_maxLen w (l.length + s.size) cap 5 hm
      refine ⟨_, some w.heap.size, _, hr, ⟨rfl, ?_, .inr ⟨w.heap.size, _, _, (0, 0), ?_, Nat.zero_le _, heap_alloc_new w.drew _, Nat.zero_le _, ?_, hcm2, ?_, ?_⟩⟩, ⟨rfl, rfl, rfl, by simp, fun k hk _ => Below.heap_alloc w.drew _ k hk⟩, .inr ⟨_, rfl, Nat.le_refl _⟩⟩
      · simp [Lib.byteCells]
      · rw [hlen2]
      · rw [hlen2]; exact hge
      · have hz1' : (Value.int IntKind.u8 0).cells.size = 1 := rfl
        simp only [Array.size_append, List.size_toArray, size_zeroCells, hz1', Lib.strCells_length, Lib.byteCells_length]
        omega
      · have e : (l ++ s.data.toList).length * 1 = (Lib.byteCells l ++ Lib.strCells s).length := by simp [Lib.byteCells, Lib.strCells]
        simp only [Array.toList_append, List.append_assoc]
        rw [← List.append_assoc, ← cells_app, e]
        exact List.take_left
theorem wpList_buf_append (w : World) {ops : Array Oper} {rest : List Oper} {o : Oper} {a : Act} {Q : Exit → Act → World → Prop} (hgd : o.guard = none) (sl x : Operand)
    (ho : o.op = .call { callee := .builtin .append, args := #[sl, x], argTypes := #[98, 9] })
    (v : Value) (r : Option Nat) (l : List UInt8) (hs : a.eval sl = v) (h : BufB w v r l) (s : ByteArray) (hx : a.eval x = .string s) (hlen : l.length + s.size ≤ 140737488355328)
    (hK : ∀ v' r' w', BufB w' v' r' (l ++ s.data.toList) → w.grownBy w' r → (r' = r ∨ ∃ g, r' = some g ∧ w.heap.size ≤ g) → wpList Tryd.prog ops Q rest (a.put o.dst v') w') : wpList Tryd.prog ops Q (o :: rest) a w := by
  refine wpList_plain hgd fun K hK' => ?_
  obtain ⟨v', r', w', hr, h2, h3, h4⟩ := run_buf_append w v r l h s hlen o.type
  unfold Oper.wp execOp
  simp only [ho, resolve, invoke, builtin, Sem.run_bind, Sem.run_pure, Result.andThen_ok, List.map_toArray, List.map_cons, List.map_nil, hs, hx, hr]
  exact hK' _ _ (hK v' r' w' h2 h3 h4)
/-- The file in block f: a builder that holds l (its buffer in row r), of which n bytes last. -/
def BldAt (w : World) (f : Nat) (r : Option Nat) (l : List UInt8) : Prop :=
  ∃ p v, (p = .pointer none ∨ p = .pointer (some ⟨f, 0, none⟩)) ∧ w.heap[f]? = some (.cells #[p, v] 100 (0, 0)) ∧ BufB w v r l
theorem BldAt.lt {w : World} {f : Nat} {r : Option Nat} {l : List UInt8} (h : BldAt w f r l) : f < w.heap.size := by
  obtain ⟨p, v, _, hb, _⟩ := h; exact (Array.getElem?_eq_some_iff.1 hb).1
theorem BldAt.ne {w : World} {f : Nat} {r : Option Nat} {l : List UInt8} (h : BldAt w f r l) : r ≠ some f := by
  obtain ⟨p, v, _, hb, hv⟩ := h
  intro e
  obtain ⟨c, fz, hc⟩ := hv.type f e
  rw [hb] at hc
  simp at hc
theorem BldAt.row {w : World} {f : Nat} {r : Option Nat} {l : List UInt8} (h : BldAt w f r l) : ∀ g, r = some g → g < w.heap.size := by
  obtain ⟨p, v, _, hb, hv⟩ := h; exact hv.lt
theorem BldAt.kept {w w' : World} {f : Nat} {r : Option Nat} {l : List UInt8} (h : BldAt w f r l) (hf : w'.heap[f]? = w.heap[f]?) (hr : ∀ g, r = some g → w'.heap[g]? = w.heap[g]?) : BldAt w' f r l := by
  obtain ⟨p, v, hp, hb, hv⟩ := h
  exact ⟨p, v, hp, hf.trans hb, hv.kept hr⟩
/-- What a call that writes to a file leaves. -/
structure WroteB (f : Nat) (r : Option Nat) (l : List UInt8) (w w' : World) : Prop where
  file : ∃ r', BldAt w' f r' l ∧ (r' = r ∨ r' = none ∨ ∃ g, r' = some g ∧ w.heap.size ≤ g)
  upon : Upon (fun k => k = f ∨ some k = r) w w'
set_option maxHeartbeats 1000000 in
set_option maxRecDepth 100000 in
theorem bcheck_used (f : Nat) (w : World) (h0 : w.cell? ⟨f, 0, none⟩ = some (.pointer (some ⟨f, 0, none⟩))) :
    Calls Tryd.prog 91 #[.pointer (some ⟨f, 0, none⟩)] w fun e w' => e = .returned (.tuple #[]) ∧ w = w' := by
  obtain ⟨j, hj, _⟩ := Option.map_eq_some_iff.1 (show (Tryd.prog.info? 100).map (fun i => i.size) = some 2 by kernel_rfl)
  have hq := Lib.hid (Lib.run_neq_ptr_same (P := Tryd.prog) w ⟨f, 0, none⟩ Tryd.underlying97 hj)
  go_enter Tryd.func91, Tryd.ntmps91
  go_wp2
  rw [hq.out]
  go_wp2
  go_end0
  exact ⟨rfl, rfl⟩
set_option maxHeartbeats 1000000 in
set_option maxRecDepth 100000 in
theorem bcheck_fresh (f : Nat) (c : Array Value) (w : World) (hc : c.size = 2) (hb : w.heap[f]? = some (.cells c 100 (0, 0))) (h0 : c[0]? = some (.pointer none)) :
    Calls Tryd.prog 91 #[.pointer (some ⟨f, 0, none⟩)] w fun e w' => e = .returned (.tuple #[]) ∧ w.setCell ⟨f, 0, none⟩ (.pointer (some ⟨f, 0, none⟩)) = w' := by
  obtain ⟨j, hj, hjs⟩ := Option.map_eq_some_iff.1 (show (Tryd.prog.info? 100).map (fun i => i.size) = some 2 by kernel_rfl)
  have hsh : w.shape? f = some (100, 2) := by simp [World.shape?, hb, hc]
  have c0 : w.cell? ⟨f, 0, none⟩ = some (.pointer none) := by rw [Lib.cell_of_heap hb]; exact h0
  have f0 : w.frozen? ⟨f, 0, none⟩ = false := Lib.frozen_of_heap hb 0
  have lies : liesAt Tryd.prog Tryd.prog.depth 100 (2 / Tryd.prog.cellsOf 100) 0 100 1 = true := by kernel_rfl
  have h1 := Lib.hid (Lib.run_to_unsafe (P := Tryd.prog) w ⟨f, 0, none⟩ Tryd.underlying97 Tryd.underlying140 hj (by rw [hjs]; decide) hsh (by show (0 : Nat) < 2; omega))
  have h2 := Lib.hid (Lib.run_from_unsafe (P := Tryd.prog) w ⟨f, 0, none⟩ Tryd.underlying140 Tryd.underlying97 hj hsh lies)
  clear lies hsh hb h0 hjs hj hc
  go_enter Tryd.func91, Tryd.ntmps91
  go_wp2
  rw [h1.out]
  simp only [Result.andThen]
  rw [Oper.upon_value]
  go_wp2
  rw [run_callFunc_extern Tryd.func101 (by kernel_rfl) (by kernel_rfl) (by kernel_rfl) (e := Extern.AbiNoEscape.same) (by kernel_rfl)]
  rw [Lib.run_noEscape]
  simp only [Result.andThen]
  rw [Oper.upon_value]
  go_wp2
  rw [h2.out]
  simp only [Result.andThen]
  rw [Oper.upon_value]
  go_wp2
  go_end0
  exact ⟨rfl, rfl⟩
theorem bset0 {w : World} {f : Nat} {p v q : Value} {T : TypeId} (hb : w.heap[f]? = some (.cells #[p, v] T (0, 0))) : (w.setCell ⟨f, 0, none⟩ q).heap[f]? = some (.cells #[q, v] T (0, 0)) := by
  simp [World.setCell, Array.getElem?_modify, hb]
theorem bset1 {w : World} {f : Nat} {p v q : Value} {T : TypeId} (hb : w.heap[f]? = some (.cells #[p, v] T (0, 0))) : (w.setCell ⟨f, 1, none⟩ q).heap[f]? = some (.cells #[p, q] T (0, 0)) := by
  simp [World.setCell, Array.getElem?_modify, hb]
/-- copyCheck: behind it the builder holds its own address. -/
theorem bcheck_any (f : Nat) (v : Value) (p : Value) (w : World) (hp : p = .pointer none ∨ p = .pointer (some ⟨f, 0, none⟩)) (hb : w.heap[f]? = some (.cells #[p, v] 100 (0, 0))) :
    Calls Tryd.prog 91 #[.pointer (some ⟨f, 0, none⟩)] w fun e w' => e = .returned (.tuple #[]) ∧ w'.heap[f]? = some (.cells #[.pointer (some ⟨f, 0, none⟩), v] 100 (0, 0)) ∧ w.grownBy w' (some f) := by
  rcases hp with rfl | rfl
  · refine (bcheck_fresh f _ w rfl hb rfl).mono ?_
    rintro e w' ⟨rfl, rfl⟩
    exact ⟨rfl, bset0 hb, rfl, rfl, rfl, by simp [World.setCell], fun k _ hk => Below.heap_setCell _ _ _ _ (fun e => hk (by rw [e]))⟩
  · refine (bcheck_used f w (by rw [Lib.cell_of_heap hb]; rfl)).mono ?_
    rintro e w' ⟨rfl, rfl⟩
    exact ⟨rfl, hb, rfl, rfl, rfl, Nat.le_refl _, fun _ _ _ => rfl⟩
set_option maxHeartbeats 2000000 in
theorem bwrite_at (f : Nat) (r : Option Nat) (l : List UInt8) (s : ByteArray) (w : World) (h : BldAt w f r l) (hlen : l.length + s.size ≤ 140737488355328) :
    Calls Tryd.prog 65 #[.pointer (some ⟨f, 0, none⟩), .string s] w fun e w' => e = .returned (.tuple #[.int .i64 s.size, .nilIface]) ∧ WroteB f r (l ++ s.data.toList) w w' := by
  have hrf := h.ne
  obtain ⟨p, v, hp, hb, hv⟩ := h
  have hlt : f < w.heap.size := (Array.getElem?_eq_some_iff.1 hb).1
  have HC := Lib.hid (bcheck_any f v p w hp hb)
  have HR := Lib.hid hrf
  have HB := Lib.hid hb
  have HV := Lib.hid hv
  clear hrf hb hv hp
  go_enter Tryd.func65, Tryd.ntmps65
  go_wp2_with fail
  refine HC.out.mono ?_
  rintro e w1 ⟨rfl, hb1, hg1⟩
  have c1 : w1.cell? ⟨f, 1, none⟩ = some v := by rw [Lib.cell_of_heap hb1]; rfl
  have hv1 : BufB w1 v r l := HV.out.kept fun g hg => hg1.block g (HV.out.lt g hg) (fun e => HR.out (by rw [hg, e]))
  have HB1 := Lib.hid hb1
  have HG1 := Lib.hid hg1
  clear hb1 hg1
  go_wp2_with (at_builtin; refine wpList_buf_append _ rfl _ _ rfl v r l rfl hv1 s rfl hlen ?_)
  intro v' r' w2 hv2 hg2 hr'
  have hlt1 : f < w1.heap.size := Nat.lt_of_lt_of_le hlt HG1.out.size
  have hb2 : w2.heap[f]? = some (.cells #[.pointer (some ⟨f, 0, none⟩), v] 100 (0, 0)) := (hg2.block f hlt1 (fun e => HR.out e.symm)).trans HB1.out
  have d1 : w2.cell? ⟨f, 1, none⟩ = some v := by rw [Lib.cell_of_heap hb2]; rfl
  have f1 : w2.frozen? ⟨f, 1, none⟩ = false := Lib.frozen_of_heap hb2 1
  obtain ⟨a', n', c', rfl⟩ : ∃ a m c, v' = .slice a m c := let ⟨a, c, e⟩ := hv2.slice; ⟨a, _, c, e⟩
  have H : Hid (WroteB f r (l ++ s.data.toList) w (w2.setCell ⟨f, 1, none⟩ (.slice a' n' c'))) := Lib.hid (by
    have hne : r' ≠ some f := by
      intro e
      obtain ⟨c, fz, hc⟩ := hv2.type f e
      rw [hb2] at hc; simp at hc
    refine ⟨⟨r', ⟨_, _, .inr rfl, bset1 hb2, hv2.kept fun g hg => Below.heap_setCell _ _ _ _ (fun e => hne (by rw [hg]; exact congrArg some e))⟩, ?_⟩, ?_⟩
    · rcases hr' with e | ⟨g, e, hg⟩
      · exact .inl e
      · exact .inr (.inr ⟨g, e, Nat.le_trans HG1.out.size hg⟩)
    · exact (((Upon.refl _ w).grown HG1.out (fun k hk => .inl (.inl (Option.some.inj hk).symm))).grown hg2 (fun k hk => .inl (.inr hk.symm))).setCell (.inl (.inl rfl)) _)
  clear hv2 hg2 hr' hb2 hv1
  go_wp2
  go_ret2
  exact ⟨rfl, H.out⟩
theorem freeze_other (w : World) (g n k : Nat) (h : k ≠ g) : (w.freeze ⟨g, 0, none⟩ n).heap[k]? = w.heap[k]? := by
  unfold World.freeze
  split
  · rfl
  · simp only [Array.getElem?_modify]; rw [if_neg (fun e => h e.symm)]
theorem BufB.froze {w : World} {g c : Nat} {l : List UInt8} (h : BufB w (.slice (some ⟨g, 0, none⟩) l.length c) (some g) l) : BufB (w.freeze ⟨g, 0, none⟩ l.length) (.slice (some ⟨g, 0, none⟩) l.length c) (some g) l := by
  obtain ⟨_, h1, h2⟩ := h
  refine ⟨rfl, h1, ?_⟩
  rcases h2 with ⟨hv, _⟩ | ⟨g', cap, cur, fz, hv, hb, hg, hfz, r⟩
  · cases hv
  · cases hv
    by_cases h0 : l.length = 0
    · refine .inr ⟨g, c, cur, fz, rfl, hb, ?_, hfz, r⟩
      unfold World.freeze; rw [if_pos h0]; exact hg
    · obtain ⟨lo, hi⟩ := fz
      refine .inr ⟨g, c, cur, (if lo == hi then (0, 0 + l.length) else (min lo 0, max hi (0 + l.length))), rfl, hb, ?_, ?_, r⟩
      · unfold World.freeze; rw [if_neg h0]; simp only [Array.getElem?_modify, hg, Option.map_some, if_true]
      · split
        · simp
        · simp only at hfz ⊢; omega
theorem unsafeNone (w : World) : (Builtin.unsafeString_ #[135, 3] 9 #[.pointer none, .int .i64 0]).run Tryd.prog w = .ok (.string ⟨#[]⟩) w := by kernel_rfl
theorem unsafeZero (w : World) (g : Nat) : (Builtin.unsafeString_ #[135, 3] 9 #[.pointer (some ⟨g, 0, none⟩), .int .i64 0]).run Tryd.prog w = .ok (.string ⟨#[]⟩) w := by kernel_rfl
set_option maxHeartbeats 2000000 in
set_option maxRecDepth 100000 in
theorem bstring_at (f : Nat) (r : Option Nat) (l : List UInt8) (w : World) (h : BldAt w f r l) :
    Calls Tryd.prog 71 #[.pointer (some ⟨f, 0, none⟩)] w fun e w' => e = .returned (.string ⟨l.toArray⟩) ∧ BldAt w' f r l ∧ Upon (fun k => some k = r) w w' := by
  have hlt := h.lt
  have hne := h.ne
  have h' := h
  obtain ⟨p, v, hp, hb, hv⟩ := h
  have hown := hv.2
  have hr := hv.1
  rcases hown.2 with ⟨rfl, h0⟩ | ⟨g, cap, cur, fz, rfl, hbg, hg, hfz, hnc, hcm, hcs, htake⟩
  · obtain rfl : l = [] := List.eq_nil_of_length_eq_zero h0
    have hUS := unsafeNone
    have c1 : w.drew.cell? ⟨f, 1, none⟩ = some (.slice none 0 0) := by
      have : w.drew.heap[f]? = _ := hb
      rw [Lib.cell_of_heap this]; rfl
    have hSD : (Builtin.unsafeSliceData_ #[98] 135 #[.slice none 0 0]).run Tryd.prog w.drew = .ok (.pointer none) w.drew := rfl
    have H := Lib.hid (And.intro (show BldAt w.drew f r [] from h') (Upon.drew (Upon.refl (fun k => some k = r) w)))
    clear h' hb hv hown hr hp hne hlt
    go_enter Tryd.func71, Tryd.ntmps71
    go_wp2
    go_region
    all_goals (go_wp2; go_ret; exact ⟨rfl, H.out⟩)
  · by_cases hl : l = []
    · subst hl
      have hUS := unsafeZero
      by_cases hc0 : cap = 0
      · subst hc0
        have c1 : w.drew.cell? ⟨f, 1, none⟩ = some (.slice (some ⟨g, 0, none⟩) 0 0) := by
          have : w.drew.heap[f]? = _ := hb
          rw [Lib.cell_of_heap this]; rfl
        have hSD : (Builtin.unsafeSliceData_ #[98] 135 #[.slice (some ⟨g, 0, none⟩) 0 0]).run Tryd.prog w.drew = .ok (.pointer (some ⟨w.drew.heap.size, 0, none⟩)) (w.drew.alloc (.view ⟨g, 0, none⟩ 5)) :=
          Lib.run_unsafeSliceData_zero w.drew _ _ 5 Tryd.underlying135 ⟨g, 0, none⟩ 0 (5, cur.size) (by have hg' : w.drew.heap[g]? = some (.cells cur 5 fz) := hg; simp [World.shape?, hg'])
        have c2 : (w.drew.alloc (.view ⟨g, 0, none⟩ 5)).cell? ⟨f, 1, none⟩ = some (.slice (some ⟨g, 0, none⟩) 0 0) := by
          have : (w.drew.alloc (.view ⟨g, 0, none⟩ 5)).heap[f]? = _ := (Lib.alloc_old w.drew _ f hlt).trans hb
          rw [Lib.cell_of_heap this]; rfl
        have c3 : (w.alloc (.view ⟨g, 0, none⟩ 5)).drew.cell? ⟨f, 1, none⟩ = some (.slice (some ⟨g, 0, none⟩) 0 0) := c2
        have c0 : w.cell? ⟨f, 1, none⟩ = some (.slice (some ⟨g, 0, none⟩) 0 0) := c1
        have H := Lib.hid (And.intro (show BldAt (w.drew.alloc (.view ⟨g, 0, none⟩ 5)) f r [] from h'.kept (Lib.alloc_old w.drew _ f hlt) (fun k hk => Lib.alloc_old w.drew _ k (h'.row k hk))) ((Upon.drew (Upon.refl (fun k => some k = r) w)).alloc (.view ⟨g, 0, none⟩ 5)))
        clear h' hb hv hown hr hp hne hlt
        go_enter Tryd.func71, Tryd.ntmps71
        go_wp2
        go_region
        all_goals (go_wp2; go_ret; exact ⟨rfl, H.out⟩)
      · have c1 : w.drew.cell? ⟨f, 1, none⟩ = some (.slice (some ⟨g, 0, none⟩) 0 cap) := by
          have : w.drew.heap[f]? = _ := hb
          rw [Lib.cell_of_heap this]; rfl
        have hSD : (Builtin.unsafeSliceData_ #[98] 135 #[.slice (some ⟨g, 0, none⟩) 0 cap]).run Tryd.prog w.drew = .ok (.pointer (some ⟨g, 0, none⟩)) w.drew :=
          Lib.run_unsafeSliceData_row _ _ _ _ _ _ hc0
        have H := Lib.hid (And.intro (show BldAt w.drew f r [] from h') (Upon.drew (Upon.refl (fun k => some k = r) w)))
        clear h' hb hv hown hr hp hne hlt hc0
        go_enter Tryd.func71, Tryd.ntmps71
        go_wp2
        go_region
        all_goals (go_wp2; go_ret; exact ⟨rfl, H.out⟩)
    · have hl0 : l.length ≠ 0 := by simpa using hl
      obtain rfl : some g = r := hv.1
      have c1 : w.drew.cell? ⟨f, 1, none⟩ = some (.slice (some ⟨g, 0, none⟩) l.length cap) := by
        have : w.drew.heap[f]? = _ := hb
        rw [Lib.cell_of_heap this]; rfl
      have hSD : (Builtin.unsafeSliceData_ #[98] 135 #[.slice (some ⟨g, 0, none⟩) l.length cap]).run Tryd.prog w.drew = .ok (.pointer (some ⟨g, 0, none⟩)) w.drew :=
        Lib.run_unsafeSliceData_row _ _ _ _ _ _ (by omega)
      have hUS : (Builtin.unsafeString_ #[135, 3] 9 #[.pointer (some ⟨g, 0, none⟩), .int .i64 l.length]).run Tryd.prog w.drew = .ok (.string ⟨l.toArray⟩) (w.drew.freeze ⟨g, 0, none⟩ l.length) := by
        refine Lib.run_unsafeString_row w.drew 135 3 9 5 Tryd.underlying135 (by kernel_rfl) g cur.size (by have hg' : w.drew.heap[g]? = some (.cells cur 5 fz) := hg; simp [World.shape?, hg']) l hl (by omega) (by unfold maxLen at hcm; omega) ?_
        intro j x hx
        have := hown.cells (g := g) rfl j (.int .u8 x.toNat) (by simp [Lib.byteCells, hx])
        exact this
      have hvd : BufB w.drew (.slice (some ⟨g, 0, none⟩) l.length cap) (some g) l := hv
      have H := Lib.hid (And.intro (show BldAt (w.drew.freeze ⟨g, 0, none⟩ l.length) f (some g) l from ⟨p, _, hp, (freeze_other w.drew g l.length f (fun e => hne (by rw [e]))).trans hb, hvd.froze⟩) ((Upon.drew (Upon.refl (fun k => some k = some g) w)).freeze (p := ⟨g, 0, none⟩) rfl l.length))
      clear h' hb hv hown hr hp hne hlt hl hl0 hvd
      go_enter Tryd.func71, Tryd.ntmps71
      go_wp2
      go_region
      all_goals (go_wp2; go_ret; exact ⟨rfl, H.out⟩)
/-- The builder in block p, its buffer in row r (both made since the world had B blocks), holds l. -/
structure IsB (B p : Nat) (r : Option Nat) (l : List UInt8) (w : World) : Prop where
  at_ : BldAt w p r l
  lo : B ≤ p
  buf : ∀ g, r = some g → B ≤ g
/-- The builder's own blocks. -/
def SbOwn (p : Nat) (r : Option Nat) : Nat → Prop := fun k => k = p ∨ some k = r
theorem IsB.upon {B p : Nat} {r : Option Nat} {l : List UInt8} {w w' : World} {T : Nat → Prop} (h : IsB B p r l w) (hu : Upon T w w') (hn : ∀ k, SbOwn p r k → ¬ T k) : IsB B p r l w' :=
  ⟨h.at_.kept (hu.block p h.at_.lt (hn p (.inl rfl))) fun g hg => hu.block g (h.at_.row g hg) (hn g (.inr hg.symm)), h.lo, h.buf⟩
theorem IsB.new {B p : Nat} {r : Option Nat} {l : List UInt8} {w w' : World} (h : IsB B p r l w) (hu : New0 w w') : IsB B p r l w' := h.upon hu fun _ _ f => f
theorem IsB.start (w : World) : IsB w.heap.size w.heap.size none [] (w.alloc (.cells #[.pointer none, .slice none 0 0] 100 (0, 0))) :=
  ⟨⟨_, _, .inl rfl, cell_new w _, BufB.nil _⟩, Nat.le_refl _, fun g h => by cases h⟩
/-- What a call that writes leaves: the builder; what else turned is new or its own. -/
theorem bwrite_any (B p : Nat) (r : Option Nat) (l : List UInt8) (s : ByteArray) (w : World) (h : IsB B p r l w) (hlen : l.length + s.size ≤ 140737488355328) (hB : B ≤ w.heap.size) :
    Calls Tryd.prog 65 #[.pointer (some ⟨p, 0, none⟩), .string s] w fun e w' => e = .returned (.tuple #[.int .i64 s.size, .nilIface]) ∧ (∃ r', IsB B p r' (l ++ s.data.toList) w' ∧ (r' = r ∨ r' = none ∨ ∃ g, r' = some g ∧ w.heap.size ≤ g)) ∧ Upon (SbOwn p r) w w' := by
  refine (bwrite_at p r l s w h.at_ hlen).mono ?_
  rintro e w' ⟨he, ⟨r', h1, h2⟩, h3⟩
  refine ⟨he, ⟨r', ⟨h1, h.lo, fun g hg => ?_⟩, h2⟩, h3⟩
  rcases h2 with h2 | h2 | ⟨g', h2, h4⟩
  · exact h.buf g (h2.symm.trans hg)
  · rw [h2] at hg; cases hg
  · rw [h2] at hg; injection hg with hg; omega
theorem bstring_any (B p : Nat) (r : Option Nat) (l : List UInt8) (w : World) (h : IsB B p r l w) :
    Calls Tryd.prog 71 #[.pointer (some ⟨p, 0, none⟩)] w fun e w' => e = .returned (.string (⟨l.toArray⟩ : ByteArray)) ∧ IsB B p r l w' ∧ Upon (SbOwn p r) w w' := by
  refine (bstring_at p r l w h.at_).mono ?_
  rintro e w' ⟨he, h1, h2⟩
  exact ⟨he, ⟨h1, h.lo, h.buf⟩, h2.mono fun k _ hk => Or.inr hk⟩
end Bk
end Go.Proofs.YtjpgglajcelllaaDoor
