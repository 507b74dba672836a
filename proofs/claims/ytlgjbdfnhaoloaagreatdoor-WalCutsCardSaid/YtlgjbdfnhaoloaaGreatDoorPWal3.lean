/- Parts, put together: WalStep, WalPut, WalPut2, WalPut3, WalRead, WalSync, WalDrop, WalReset. -/
import Derived.Test.YtlgjbdfnhaoloaaGreatDoorPWal2

/- What writes do to a log in memory (layer 5): a segment is changed, a segment is put behind the others. -/
section
set_option linter.unusedSimpArgs false
set_option linter.unusedVariables false
namespace Go.Proofs.YtlgjbdfnhaoloaaGreatDoor
open Go.RowKit Go.Sort
namespace Wal
open Dig Frm Dsk

theorem handV_congr {h : Bool} {l l' : List GS} (hb : l.map (·.b) = l'.map (·.b)) : handV h l = handV h l' := by
  unfold handV
  cases h with
  | false => rfl
  | true =>
    simp only [if_true]
    have e := congrArg List.getLast? hb
    rw [List.getLast?_map, List.getLast?_map] at e
    cases h1 : l.getLast? with
    | none => cases h2 : l'.getLast? with
      | none => rfl
      | some y => rw [h1, h2] at e; simp at e
    | some x => cases h2 : l'.getLast? with
      | none => rw [h1, h2] at e; simp at e
      | some y => rw [h1, h2] at e; simp at e; simp [ptrV, e]

theorem pairwise_mid {α : Type} {R : α → α → Prop} {l0 l1 : List α} {x : α} (h : (l0 ++ x :: l1).Pairwise R) : (∀ y ∈ l0, R y x) ∧ (∀ y ∈ l1, R x y) ∧ l0.Pairwise R ∧ l1.Pairwise R ∧ ∀ y ∈ l0, ∀ z ∈ l1, R y z := by
  rw [List.pairwise_append, List.pairwise_cons] at h
  exact ⟨fun y hy => h.2.2 y hy x (by simp), h.2.1.1, h.1, h.2.1.2, fun y hy z hz => h.2.2 y hy z (by simp [hz])⟩

/-- A segment is changed in its own blocks. -/
theorem LogM.change {B : Nat} {W w w' : World} {S T : Nat → Prop} {pd pl : Nat} {st : St} {lg : Lg} {l0 l1 : List GS} {x x' : GS} {v : Value} (hf : Fr B W S pd st T w) (h : LogM w T pd pl lg (l0 ++ x :: l1) v)
    (hb : x'.b = x.b) (hs : SegAt w' x') (hfi : FineS x'.s) (ho : ∀ b, own x' b → own x b ∨ w.heap.size ≤ b) (hu : Upon (own x) w w') :
    Fr B W S pd st (more T w w') w' ∧ LogM w' (more T w w') pd pl { lg with segs := (l0 ++ x' :: l1).map (·.s) } (l0 ++ x' :: l1) v := by
  have hx : x ∈ l0 ++ x :: l1 := by simp
  have hxT := h.segs.inT x hx
  obtain ⟨p1, p2, p3, p4, p5⟩ := pairwise_mid h.segs.apart
  have hk : ∀ b, T b → ¬ own x b → w'.heap[b]? = w.heap[b]? := fun b hb' hn => hu.block b (hf.lt b hb') hn
  have hlt : ∀ b, own x' b → b < w'.heap.size := hs.lt
  have hT : ∀ b, T b → more T w w' b := fun b hb' => .inl hb'
  obtain ⟨q1, q2⟩ := h.pl_own
  have hmb : (l0 ++ x' :: l1).map (·.b) = (l0 ++ x :: l1).map (·.b) := by simp [hb]
  have hmem : ∀ y ∈ l0 ++ x' :: l1, y = x' ∨ ((y ∈ l0 ∨ y ∈ l1) ∧ y ∈ l0 ++ x :: l1 ∧ ∀ b, own y b → ¬ own x b) := by
    intro y hy
    rcases List.mem_append.1 hy with hy | hy
    · exact .inr ⟨.inl hy, by simp [hy], p1 y hy⟩
    · rcases List.mem_cons.1 hy with rfl | hy
      · exact .inl rfl
      · exact .inr ⟨.inr hy, by simp [hy], fun b h1 h2 => p2 y hy b h2 h1⟩
  refine ⟨hf.own (hu.mono fun i hi hs' => hxT i hs'), { cell := ?_, row := ?_, segs := ⟨?_, ?_, ?_, ?_⟩, eq := rfl, tp := hT _ h.tp, last := h.last, dur := h.dur, hand := fun _ => by simp }⟩
  · rw [hk pl h.tp (q1 x hx), h.cell]
    unfold logCells
    rw [handV_congr hmb]
  · refine ⟨?_, fun b hb' => hT b (h.row.inT b hb')⟩
    have hr := ownsRow_kept (w' := w') h.row.row fun b hb' => hk b (h.row.inT b hb') (h.row.ne (h.segs.seg x hx) hb')
    have e : (l0 ++ x' :: l1).map ptrV = (l0 ++ x :: l1).map ptrV := by simp [ptrV, hb]
    rw [e, show (l0 ++ x' :: l1).length = (l0 ++ x :: l1).length by simp]
    exact hr
  · intro y hy
    rcases hmem y hy with rfl | ⟨_, h2, h3⟩
    · exact hs
    · exact (h.segs.seg y h2).kept fun b hb' => hk b (h.segs.inT y h2 b hb') (h3 b hb')
  · intro y hy b hb'
    rcases hmem y hy with rfl | ⟨_, h2, h3⟩
    · rcases ho b hb' with h4 | h4
      · exact hT b (hxT b h4)
      · exact .inr ⟨h4, hlt b hb'⟩
    · exact hT b (h.segs.inT y h2 b hb')
  · have hne : ∀ y ∈ l0 ++ x :: l1, (∀ b, own y b → ¬ own x b) → ∀ b, own y b → ¬ own x' b := fun y hy h3 b h4 h5 => by
      rcases ho b h5 with h6 | h6
      · exact h3 b h4 h6
      · have := hf.lt b (h.segs.inT y hy b h4); omega
    rw [List.pairwise_append, List.pairwise_cons]
    refine ⟨p3, ⟨fun y hy b h1 h2 => hne y (by simp [hy]) (fun b h3 h4 => p2 y hy b h4 h3) b h2 h1, p4⟩, fun y hy z hz => ?_⟩
    rcases List.mem_cons.1 hz with rfl | hz
    · exact hne y (by simp [hy]) (p1 y hy)
    · exact p5 y hy z hz
  · intro y hy
    rcases hmem y hy with rfl | ⟨_, h2, h3⟩
    · exact hfi
    · exact h.segs.fine y h2

/-- A new segment, not yet the log's. -/
structure Newly (w : World) (T : Nat → Prop) (l : List GS) (x : GS) : Prop where
  seg : SegAt w x
  inT : ∀ b, own x b → T b
  fine : FineS x.s
  apart : ∀ y ∈ l, ∀ b, own y b → ¬ own x b
theorem Newly.kept {w w' : World} {T : Nat → Prop} {l : List GS} {x : GS} (h : Newly w T l x) (hk : ∀ b, T b → w'.heap[b]? = w.heap[b]?) : Newly w' T l x := ⟨h.seg.kept fun b hb => hk b (h.inT b hb), h.inT, h.fine, h.apart⟩
theorem Newly.mono {w : World} {T T' : Nat → Prop} {l : List GS} {x : GS} (h : Newly w T l x) (hT : ∀ b, T b → T' b) : Newly w T' l x := ⟨h.seg, fun b hb => hT b (h.inT b hb), h.fine, h.apart⟩

/-- It is put behind the others, and in hand. -/
theorem LogM.push {B : Nat} {W w w2 : World} {S T : Nat → Prop} {pd pl : Nat} {st : St} {lg : Lg} {l : List GS} {x : GS} {v v' : Value} (hf : Fr B W S pd st T w) (h : LogM w T pd pl lg l v) (hx : Newly w T l x)
    (hrow : w2.ownsRow 0 54 1 v' (l.length + 1) (l.map ptrV ++ [ptrV x])) (hg : (w.alloc (.cells #[ptrV x] 54 (0, 0))).grownBy w2 v.ownBlock) (hv : v'.ownBlock = v.ownBlock ∨ v'.ownBlock = some (w.heap.size + 1)) :
    w2.heap[pl]? = some (.cells (logCells pd lg l v) 56 (0, 0)) ∧
    Fr B W S pd st (more T w w2) ((w2.setCell ⟨pl, 1, none⟩ v').setCell ⟨pl, 2, none⟩ (ptrV x)) ∧
      LogM ((w2.setCell ⟨pl, 1, none⟩ v').setCell ⟨pl, 2, none⟩ (ptrV x)) (more T w w2) pd pl { lg with segs := (l ++ [x]).map (·.s), hand := true } (l ++ [x]) v' := by
  have hplt := hf.lt pl h.tp
  obtain ⟨q1, q2⟩ := h.pl_own
  have hsz : w.heap.size + 1 ≤ w2.heap.size := by have := hg.size; simpa using this
  have hk2 : ∀ b, T b → v.ownBlock ≠ some b → w2.heap[b]? = w.heap[b]? := fun b hb hn => by
    have := hf.lt b hb
    rw [hg.block b (by simp; omega) (fun e => hn e.symm), Below.heap_alloc _ _ b this]
  have hc2 : w2.heap[pl]? = some (.cells (logCells pd lg l v) 56 (0, 0)) := (hk2 pl h.tp q2).trans h.cell
  have hT : ∀ b, T b → more T w w2 b := fun b hb => .inl hb
  have hu2 : Upon T w w2 := ((Upon.refl T w).alloc _).grown hg fun k hk => .inl (h.row.inT k hk.symm.symm)
  have hf2 := hf.own hu2
  have hu4 : Upon (more T w w2) w2 ((w2.setCell ⟨pl, 1, none⟩ v').setCell ⟨pl, 2, none⟩ (ptrV x)) := ((Upon.refl _ w2).setCell (p := ⟨pl, 1, none⟩) (.inl (hT _ h.tp)) _).setCell (p := ⟨pl, 2, none⟩) (.inl (hT _ h.tp)) _
  have hk4 : ∀ b, b ≠ pl → ((w2.setCell ⟨pl, 1, none⟩ v').setCell ⟨pl, 2, none⟩ (ptrV x)).heap[b]? = w2.heap[b]? := fun b hb => (Below.heap_setCell _ _ _ _ hb).trans (Below.heap_setCell _ _ _ _ hb)
  have hvpl : v'.ownBlock ≠ some pl := by
    intro e
    rcases hv with e1 | e1
    · rw [e] at e1; exact q2 e1.symm
    · rw [e] at e1; have := Option.some.inj e1; omega
  have hsegk : ∀ y ∈ l, ∀ b, own y b → ((w2.setCell ⟨pl, 1, none⟩ v').setCell ⟨pl, 2, none⟩ (ptrV x)).heap[b]? = w.heap[b]? := fun y hy b hb => by
    rw [hk4 b (by rintro rfl; exact q1 y hy hb)]
    exact hk2 b (h.segs.inT y hy b hb) (fun e => h.row.ne (h.segs.seg y hy) e hb)
  have hxpl : ∀ b, own x b → b ≠ pl := by
    rintro b hb rfl
    obtain ⟨c, T2, e1, e2⟩ := own_type hx.seg hb
    rw [h.cell] at e1
    simp at e1
    rcases e2 with rfl | rfl <;> exact absurd e1.2 (by decide)
  have hxk : ∀ b, own x b → ((w2.setCell ⟨pl, 1, none⟩ v').setCell ⟨pl, 2, none⟩ (ptrV x)).heap[b]? = w.heap[b]? := fun b hb => by
    rw [hk4 b (hxpl b hb)]
    exact hk2 b (hx.inT b hb) (fun e => h.row.ne hx.seg e hb)
  have hseg := h.segs.snoc hx.seg hx.inT hx.fine hx.apart
  refine ⟨hc2, (hf2.own hu4).narrow fun b hb => .inl hb, { cell := ?_, row := ⟨?_, ?_⟩, segs := ⟨?_, ?_, hseg.apart, hseg.fine⟩, eq := rfl, tp := hT _ h.tp, last := h.last, dur := h.dur, hand := fun _ => by simp }⟩
  · rw [set_at (set_at hc2)]
    unfold logCells handV
    simp
  · rw [List.length_append, List.map_append]
    exact ownsRow_kept hrow fun b hb => hk4 b (by rintro rfl; exact hvpl hb)
  · intro b hb
    rcases hv with e | e
    · rw [e] at hb; exact hT b (h.row.inT b hb)
    · rw [e] at hb; cases hb
      exact .inr ⟨by omega, (hrow.lt _ e).2⟩
  · intro y hy
    rcases List.mem_append.1 hy with hy | hy
    · exact (h.segs.seg y hy).kept (hsegk y hy)
    · simp at hy; subst hy; exact hx.seg.kept hxk
  · intro y hy b hb
    exact hT b (hseg.inT y hy b hb)
end Wal
end Go.Proofs.YtlgjbdfnhaoloaaGreatDoor
end

/- Append (layer 5). -/
section
set_option linter.unusedSimpArgs false
set_option linter.unusedVariables false
namespace Go.Proofs.YtlgjbdfnhaoloaaGreatDoor
open Go.RowKit Go.Sort
namespace Wal
open Dig Frm Dsk

/-- What Append leaves. -/
def Apd (B : Nat) (S : Nat → Prop) (pd pl : Nat) (st : St) (lg : Lg) (s : ByteArray) (w : World) (r : Ending) (w' : World) : Prop :=
  r = .returned (.tuple #[.int .i64 ((appendL lg st s).n : Int), .int .i64 (appendL lg st s).err]) ∧ LStep B S pd pl (appendL lg st s).st (appendL lg st s).lg w w'

theorem SegAt.mark {w : World} {x : GS} (h : SegAt w x) (m : Bool) : SegAt (w.setCell ⟨x.b, 2, none⟩ (.bool m)) ⟨x.b, x.v, { x.s with marked := m }⟩ ∧ Upon (own x) w (w.setCell ⟨x.b, 2, none⟩ (.bool m)) := by
  refine ⟨⟨?_, ownsRow_kept h.row fun b hb => Below.heap_setCell _ _ _ _ (fun e => h.ne (by rw [hb]; exact congrArg some e))⟩, (Upon.refl _ w).setCell (p := ⟨x.b, 2, none⟩) (.inl (.inl rfl)) _⟩
  rw [set_at h.cell]
  rfl

/-- Behind grow, the mark and the new last number. -/
theorem apd_grown {B : Nat} {W w w2 : World} {S T : Nat → Prop} {pd pl : Nat} {st : St} {lg : Lg} {l0 : List GS} {x : GS} {v : Value} {z : Nat} {e : Ending} (hf : Fr B W S pd st T w) (h : LogM w T pd pl lg (l0 ++ [x]) v) (hl : lg.last < 99999999) (hz : x.s.lens.sum + z ≤ 1000000000000) (hz1 : 1 ≤ z)
    (hg : Grew x z w e w2) : e = .returned (.tuple #[]) ∧ (w2.cell? ⟨x.b, 2, none⟩ = some (.bool x.s.marked) ∧ w2.frozen? ⟨x.b, 2, none⟩ = false) ∧
      ((w2.setCell ⟨x.b, 2, none⟩ (.bool true)).cell? ⟨pl, 4, none⟩ = some (.int .i64 (lg.last : Int)) ∧ (w2.setCell ⟨x.b, 2, none⟩ (.bool true)).frozen? ⟨pl, 4, none⟩ = false) ∧
      LStep B S pd pl st { lg with segs := lg.segs.dropLast ++ [⟨x.s.first, x.s.lens ++ [z], true⟩], last := lg.last + 1 } W ((w2.setCell ⟨x.b, 2, none⟩ (.bool true)).setCell ⟨pl, 4, none⟩ (.int .i64 ((lg.last : Int) + 1))) := by
  obtain ⟨he, v', g1, g2, g3⟩ := hg
  have hfx := h.segs.fine x (by simp)
  have hfi : FineS ({ x.s with lens := x.s.lens ++ [z] } : Seg) := ⟨hfx.pos, hfx.top, by simp; omega, by have := hfx.len; simp; omega⟩
  obtain ⟨f2, h2⟩ := LogM.change hf h (x' := ⟨x.b, v', { x.s with lens := x.s.lens ++ [z] }⟩) rfl g1 hfi g2 g3
  obtain ⟨m1, m2⟩ := g1.mark true
  have hc := g1.cells
  obtain ⟨f3, h3⟩ := LogM.change f2 h2 (x' := ⟨x.b, v', { x.s with lens := x.s.lens ++ [z], marked := true }⟩) rfl m1 ⟨hfi.pos, hfi.top, hfi.size, hfi.len⟩ (fun b hb => .inl hb) m2
  have hc3 := h3.cells
  have hseg : lg.segs.dropLast = l0.map (·.s) := by rw [h.eq, List.map_append, List.map_singleton, List.dropLast_concat]
  have hs := LogM.set f3 h3 (lg' := { lg with segs := lg.segs.dropLast ++ [⟨x.s.first, x.s.lens ++ [z], true⟩], last := lg.last + 1 }) (x := .int .i64 ((lg.last : Int) + 1)) 4 (by rw [hseg]; simp) (by show lg.last + 1 ≤ _; omega) h.dur (fun _ => by simp) (by
    unfold logCells
    simp)
  exact ⟨he, ⟨hc.2.2.1, hc.2.2.2 2⟩, ⟨hc3.2.2.2.2.1, hc3.2.2.2.2.2.2 4⟩, LStep.of hs.1 hs.2⟩

/-- Behind the call of the disk's Append. -/
def Wrote1 (B : Nat) (W : World) (S : Nat → Prop) (pd : Nat) (st' : St) (T : Nat → Prop) (w w' : World) : Prop := ∃ T', Fr B W S pd st' T' w' ∧ (∀ b, T b → T' b) ∧ ∀ b, T b → w'.heap[b]? = w.heap[b]?

/-- Append's own conditions: the numbers that occur are none that the model could not bear. -/
structure Roomy (st : St) : Prop where
  used : used st ≤ 3000000000000000000
  file : ∀ f ∈ st.F, f.s.length ≤ 900000000000
  chs : st.C.length ≤ 800000000
structure Slim (lg : Lg) : Prop where
  size : ∀ s ∈ lg.segs, s.lens.sum ≤ 900000000000
  last : lg.last ≤ 900000000000000
  len : lg.segs.length ≤ 1000000

theorem put_small (s : ByteArray) (h : putE 1 s = 0) : (putS 1 s).size ≤ 100000 ∧ 1 ≤ (putS 1 s).size := by
  unfold putE at h
  unfold putS
  by_cases h1 : 65536 < s.size
  · rw [if_neg (by omega), if_pos h1] at h; cases h
  · rw [if_neg (by omega), if_neg h1]
    have := putA_size 1 s
    have := nd_le s.size
    simp only [Int.toNat_one]
    omega
theorem LStep.same {B : Nat} {S T : Nat → Prop} {pd pl : Nat} {st : St} {lg : Lg} {l : List GS} {v : Value} {w w' : World} (hf : Fr B w S pd st T w) (h : LogM w T pd pl lg l v) (hb : Below w.heap.size w w') : LStep B S pd pl st lg w w' :=
  LStep.of ((hf.below hb)) ((h.kept fun b hb' => hb.block b (hf.lt b hb')).mono fun b hb' => .inl hb')

set_option maxHeartbeats 1600000 in
set_option maxRecDepth 100000 in
theorem append_err (B : Nat) (S : Nat → Prop) (pd pl : Nat) (st : St) (lg : Lg) (s : ByteArray) (hs : s.size ≤ 9223372036854775807) (he : putE 1 s ≠ 0) (T : Nat → Prop) (l : List GS) (v : Value) (w : World) (hf : Fr B w S pd st T w) (h : LogM w T pd pl lg l v) :
    Calls Tryz.prog 12 #[.pointer (some ⟨pl, 0, none⟩), .string s] w (Apd B S pd pl st lg s w) := by
  have e : appendL lg st s = ⟨lg, st, 0, putE 1 s⟩ := by unfold appendL; rw [if_pos he]
  unfold Apd
  rw [e]
  have HP := Lib.hid (put_any 1 s hs w hf.env.tab)
  have HS := Lib.hid (fun w' (hb : Below w.heap.size w w') => LStep.same hf h hb)
  have hne : (putE 1 s != 0) = true := by simp; exact he
  clear hf h e he
  generalize putE 1 s = E at *
  go_enter Tryz.func12, Tryz.ntmps12
  go_wp2_with fail
  refine HP.out.mono ?_
  rintro r w1 ⟨rfl, hb⟩
  have HS1 := Lib.hid (HS.out w1 hb)
  clear hb HP HS
  go_wp2
  go_ret2
  exact ⟨rfl, HS1.out⟩
set_option maxHeartbeats 1600000 in
set_option maxRecDepth 100000 in
theorem append_full (B : Nat) (S : Nat → Prop) (pd pl : Nat) (st : St) (lg : Lg) (s : ByteArray) (hs : s.size ≤ 9223372036854775807) (he : putE 1 s = 0) (hl : 99999999 ≤ lg.last) (T : Nat → Prop) (l : List GS) (v : Value) (w : World) (hf : Fr B w S pd st T w) (h : LogM w T pd pl lg l v) :
    Calls Tryz.prog 12 #[.pointer (some ⟨pl, 0, none⟩), .string s] w (Apd B S pd pl st lg s w) := by
  have e : appendL lg st s = ⟨lg, st, 0, 4⟩ := by unfold appendL; rw [if_neg (by rw [he]; simp), if_pos hl]
  unfold Apd
  rw [e]
  have HP := put_any 1 s hs w hf.env.tab
  rw [he] at HP
  replace HP := Lib.hid HP
  have HS := Lib.hid (fun w' (hb : Below w.heap.size w w') => LStep.same hf h hb)
  have HC := Lib.hid (fun w' (hb : Below w.heap.size w w') => ((h.kept (w' := w') fun b hb' => hb.block b (hf.lt b hb')).cells.2.2.2.2.1))
  have hl' : (99999999 : Int) ≤ (lg.last : Int) := by omega
  clear hf h e he hl
  go_enter Tryz.func12, Tryz.ntmps12
  go_wp2_with fail
  refine HP.out.mono ?_
  rintro r w1 ⟨rfl, hb⟩
  have HS1 := Lib.hid (HS.out w1 hb)
  have c4 := HC.out w1 hb
  clear hb HP HS HC
  go_wp2
  go_ret2
  exact ⟨rfl, HS1.out⟩
end Wal
end Go.Proofs.YtlgjbdfnhaoloaaGreatDoor
end

/- Append into the segment in hand (layer 5). -/
section
set_option linter.unusedSimpArgs false
set_option linter.unusedVariables false
namespace Go.Proofs.YtlgjbdfnhaoloaaGreatDoor
open Go.RowKit Go.Sort
namespace Wal
open Dig Frm Dsk

theorem lg_tail {w : World} {T : Nat → Prop} {pd pl : Nat} {lg : Lg} {l0 : List GS} {x : GS} {v : Value} (h : LogM w T pd pl lg (l0 ++ [x]) v) : lg.segs.getLast? = some x.s := by rw [h.eq]; simp
theorem begins_hand {lg : Lg} {s : Seg} (hh : lg.hand = true) (hs : lg.segs.getLast? = some s) (hn : s.lens.length ≠ 16) : begins lg = false ∧ target lg = s := by
  have e : begins lg = false := by unfold begins; rw [hh, hs]; simp [hn]
  exact ⟨e, by unfold target; rw [e, hs]; rfl⟩

/-- The disk's Append, as the walk calls it. -/
theorem Fr.append {B : Nat} {W w : World} {S T : Nat → Prop} {pd : Nat} {st : St} (h : Fr B W S pd st T w) (hr : Roomy st) (n : Nat) (hn : n ≤ 99999999) (t : ByteArray) (ht : t.size ≤ 100000) :
    Calls Tryz.prog 32 #[.pointer (some ⟨pd, 0, none⟩), .string (nameB n), .string t] w fun e w' => e = .returned (.int .i64 (appE st (nameL n) t.data.toList)) ∧ Fr B W S pd (appS st (nameL n) t.data.toList) T w' ∧ (∀ b, T b → w'.heap[b]? = w.heap[b]?) ∧ w.heap.size ≤ w'.heap.size :=
  h.step (P := fun e => e = .returned (.int .i64 (appE st (nameL n) t.data.toList))) fun Sd hd => by
    have hns : (nameB n).size ≤ maxLen := by
      have e : (nameB n).size = (nameL n).length := rfl
      rw [e, name_length _ hn]; unfold maxLen; omega
    have := app_any Sd pd st (nameB n) t hns (by have := hr.used; omega) (fun f hf => by have := hr.file f hf; omega) (by omega) (by have := hr.chs; omega) w hd
    rw [nameB_list] at this
    exact this

set_option maxHeartbeats 3200000 in
set_option maxRecDepth 100000 in
theorem append_hand (B : Nat) (S : Nat → Prop) (pd pl : Nat) (st : St) (lg : Lg) (s : ByteArray) (hs : s.size ≤ 9223372036854775807) (he : putE 1 s = 0) (hl : lg.last < 99999999) (hr : Roomy st) (hsl : Slim lg) (hh : lg.hand = true) (T : Nat → Prop) (l0 : List GS) (x : GS) (hx16 : x.s.lens.length ≠ 16) (v : Value) (w : World)
    (hf : Fr B w S pd st T w) (h : LogM w T pd pl lg (l0 ++ [x]) v) :
    Calls Tryz.prog 12 #[.pointer (some ⟨pl, 0, none⟩), .string s] w (Apd B S pd pl st lg s w) := by
  have hlt := lg_tail h
  obtain ⟨hb1, hb2⟩ := begins_hand hh hlt hx16
  have hfx := h.segs.fine x (by simp)
  obtain ⟨hz1, hz2⟩ := put_small s he
  have hsum : x.s.lens.sum ≤ 900000000000 := hsl.size x.s (by rw [h.eq]; simp)
  have hap : appendL lg st s = if appE st x.s.name (putS 1 s).data.toList ≠ 0 then ⟨lg, appS st x.s.name (putS 1 s).data.toList, 0, appE st x.s.name (putS 1 s).data.toList⟩ else ⟨{ lg with segs := lg.segs.dropLast ++ [⟨x.s.first, x.s.lens ++ [(putS 1 s).size], true⟩], last := lg.last + 1 }, appS st x.s.name (putS 1 s).data.toList, lg.last + 1, 0⟩ := by
    unfold appendL appended
    rw [if_neg (by rw [he]; simp), if_neg (by omega), hb1, hb2, hh]
    simp
  have HP := put_any 1 s hs w hf.env.tab
  rw [he] at HP
  replace HP := Lib.hid HP
  have HF := Lib.hid (fun w' (hb : Below w.heap.size w w') => (show Fr B w S pd st (more T w w') w' ∧ LogM w' (more T w w') pd pl lg (l0 ++ [x]) v from ⟨hf.below hb, (h.kept fun b hb' => hb.block b (hf.lt b hb')).mono fun b hb' => .inl hb'⟩))
  have htop := hfx.top
  have hhand : handV lg.hand (l0 ++ [x]) = .pointer (some ⟨x.b, 0, none⟩) := by unfold handV; rw [hh]; simp [ptrV]
  have HAP := Lib.hid (fun (T2 : Nat → Prop) (w2 : World) (f2 : Fr B w S pd st T2 w2) => f2.append hr x.s.first htop (putS 1 s) hz1)
  unfold Seg.name at hap
  have HQ0 := Lib.hid (show ∀ w', appE st (nameL x.s.first) (putS 1 s).data.toList ≠ 0 → LStep B S pd pl (appS st (nameL x.s.first) (putS 1 s).data.toList) lg w w' → Apd B S pd pl st lg s w (.returned (.tuple #[.int .i64 0, .int .i64 (appE st (nameL x.s.first) (putS 1 s).data.toList)])) w' from fun w' hE hs => by
    unfold Apd; rw [hap, if_pos hE]; exact ⟨rfl, hs⟩)
  have HQ1 := Lib.hid (show ∀ w', appE st (nameL x.s.first) (putS 1 s).data.toList = 0 → LStep B S pd pl (appS st (nameL x.s.first) (putS 1 s).data.toList) { lg with segs := lg.segs.dropLast ++ [⟨x.s.first, x.s.lens ++ [(putS 1 s).size], true⟩], last := lg.last + 1 } w w' → Apd B S pd pl st lg s w (.returned (.tuple #[.int .i64 ((lg.last : Int) + 1), .int .i64 0])) w' from fun w' hE hs => by
    unfold Apd; rw [hap, if_neg (by rw [hE]; simp)]; exact ⟨by simp, hs⟩)
  have HL := Lib.hid hl
  have hl' : decide ((99999999 : Int) ≤ (lg.last : Int)) = false := decide_eq_false (by omega)
  have HTOP := Lib.hid htop
  have HSUM := Lib.hid hsum
  clear hap hb1 hb2 hlt hf h hsl hs he hr hl htop hsum
  generalize Apd B S pd pl st lg s w = Q at HQ0 HQ1 ⊢
  generalize putS 1 s = D at HP HAP HQ0 HQ1 hz1 hz2
  obtain ⟨E, hE⟩ : ∃ E, appE st (nameL x.s.first) D.data.toList = E := ⟨_, rfl⟩
  obtain ⟨st', hst'⟩ : ∃ st', appS st (nameL x.s.first) D.data.toList = st' := ⟨_, rfl⟩
  rw [hE, hst'] at HAP HQ0 HQ1
  clear hE hst'
  go_enter Tryz.func12, Tryz.ntmps12
  go_wp2_with fail
  refine HP.out.mono ?_
  rintro r w1 ⟨rfl, hb⟩
  obtain ⟨f1, h1⟩ := HF.out w1 hb
  clear hb HP HF
  have hcs := h1.cells
  rw [hhand] at hcs
  obtain ⟨c0, -, c2, -, c4, -, -⟩ := hcs
  have HCT := Lib.hid (count_any x w1 (h1.segs.seg x (by simp)) hfx)
  have hne16 : ((x.s.lens.length : Int) == 16) = false := by simp; omega
  have HN := Lib.hid (name_any x B w1.drew ((h1.segs.seg x (by simp)).kept fun _ _ => rfl) hfx (f1.env.kept (w' := w1.drew) (fun _ _ => rfl) (Nat.le_refl _)))
  have HW := Lib.hid (show ∀ w2, Below w1.drew.heap.size w1.drew w2 → Below w1.heap.size w1 w2 ∧ w2.cell? ⟨pl, 0, none⟩ = some (.pointer (some ⟨pd, 0, none⟩)) from fun w2 hb => by
    have hb' : Below w1.heap.size w1 w2 := chain2 (w1 := w1.drew) ⟨rfl, rfl, rfl, Nat.le_refl _, fun _ _ => rfl⟩ hb
    exact ⟨hb', (hb'.cell (p := ⟨pl, 0, none⟩) (f1.lt pl h1.tp)).trans c0⟩)
  have F1 := Lib.hid f1
  have H1 := Lib.hid h1
  have HFX := Lib.hid hfx
  have HZ1 := Lib.hid hz1
  have HZ2 := Lib.hid hz2
  clear f1 h1 hfx hz1 hz2 hhand hh hx16
  go_wp2_with (go_at_call 30; refine HCT.out.mono ?_; rintro r w2 ⟨rfl, rfl⟩)
  go_cut [10] (fun y wx => y = .int .i64 E ∧ Wrote1 B w S pd st' (more T w w1) w1 wx)
  case first =>
    go_region_with (first
      | (go_at_call 33; refine HN.out.mono ?_; rintro r w2 ⟨rfl, hb2⟩; obtain ⟨hb2', d0⟩ := HW.out w2 hb2; replace hb2' := Lib.hid hb2'; clear hb2)
      | (go_at_call 32; refine (HAP.out _ w2 (F1.out.below hb2'.out)).mono ?_; rintro r w3 ⟨rfl, f3, k3, z3⟩; have HWR := Lib.hid (show Wrote1 B w S pd st' (more T w w1) w1 w3 from ⟨_, f3, fun b hb => .inl hb, fun b hb => (k3 b (.inl hb)).trans (hb2'.out.block b (F1.out.lt b hb))⟩); clear f3 k3 z3))
    all_goals (go_wp2_with fail; go_meet; exact ⟨rfl, HWR.out⟩)
  case rest =>
    obtain ⟨rfl, T', f3, k1, k2⟩ := hcut
    have h3 := (H1.out.kept k2).mono k1
    by_cases hE : E = 0
    · subst hE
      have HQ := Lib.hid (fun w' hs => HQ1.out w' rfl hs)
      have HG := Lib.hid (grow_any x D.size _ (h3.segs.seg x (by simp)) HFX.out (by have := HZ1.out; omega))
      have HA := Lib.hid (fun r w2 hg => apd_grown (w2 := w2) (e := r) f3 h3 HL.out (show x.s.lens.sum + D.size ≤ 1000000000000 by have := HSUM.out; have := HZ1.out; omega) HZ2.out hg)
      clear h3 f3 k1 k2 H1 F1 HQ0 HQ1 HCT HN HW HAP
      go_wp2_with fail
      refine HG.out.mono ?_
      rintro r w2 hg
      obtain ⟨rfl, ⟨d1, d2⟩, ⟨d3, d4⟩, hst⟩ := HA.out r w2 hg
      have HQ2 := Lib.hid (HQ.out _ hst)
      have d5 := World.cell?_setCell_same (w2.setCell ⟨x.b, 2, none⟩ (.bool true)) ⟨pl, 4, none⟩ (.int .i64 ((lg.last : Int) + 1)) d3
      clear hg hst HG HA HQ c0 c2 c4
      have hw : Hid (wrap64 ((lg.last : Int) + 1) = (lg.last : Int) + 1) := Lib.hid (by have := HL.out; unfold wrap64; omega)
      go_wp2
      rw [hw.out]
      exact HQ2.out
    · have hne : (E != 0) = true := by simp; exact hE
      have HQ := Lib.hid (HQ0.out _ hE (LStep.of f3 h3))
      clear h3 f3 k1 k2 H1 F1 HQ0 HQ1 HCT HN HW HAP
      go_wp2
      exact HQ.out
end Wal
end Go.Proofs.YtlgjbdfnhaoloaaGreatDoor
end

/- Append into a new segment (layer 5), and Append whole. -/
section
set_option linter.unusedSimpArgs false
set_option linter.unusedVariables false
namespace Go.Proofs.YtlgjbdfnhaoloaaGreatDoor
open Go.RowKit Go.Sort
namespace Wal
open Dig Frm Dsk

theorem begins_new {lg : Lg} (h : lg.hand = false ∨ ∃ s, lg.segs.getLast? = some s ∧ s.lens.length = 16) : begins lg = true ∧ target lg = ⟨lg.last + 1, [], false⟩ := by
  have e : begins lg = true := by
    unfold begins
    rcases h with h | ⟨s, h1, h2⟩
    · rw [h]; rfl
    · rw [h1]; simp [h2]
  exact ⟨e, by unfold target; rw [e]; rfl⟩

/-- A new segment beside the log. -/
theorem newly_of {B : Nat} {W w1 w2 : World} {S T : Nat → Prop} {pd pl n : Nat} {st : St} {lg : Lg} {l : List GS} {v : Value} {r : Ending} (hf : Fr B W S pd st T w1) (h : LogM w1 T pd pl lg l v) (hn1 : 1 ≤ n) (hn2 : n ≤ 99999999) (hnew : NewSeg n w1 r w2) :
    ∃ x : GS, r = .returned (.pointer (some ⟨x.b, 0, none⟩)) ∧ x.s = ⟨n, [], false⟩ ∧ Fr B W S pd st (more T w1 w2) w2 ∧ LogM w2 (more T w1 w2) pd pl lg l v ∧ Newly w2 (more T w1 w2) l x := by
  obtain ⟨x, he, hx, hs, ho, hb⟩ := hnew
  refine ⟨x, he, hx, hf.below hb, (h.kept fun b hb' => hb.block b (hf.lt b hb')).mono fun b hb' => .inl hb', hs, fun b hb' => .inr ⟨ho b hb', hs.lt b hb'⟩, ?_, fun y hy b h1 h2 => ?_⟩
  · rw [hx]; exact ⟨hn1, hn2, by simp, by simp⟩
  · have := hf.lt b (h.segs.inT y hy b h1)
    have := ho b h2
    omega

set_option maxHeartbeats 6400000 in
set_option maxRecDepth 100000 in
theorem append_new (B : Nat) (S : Nat → Prop) (pd pl : Nat) (st : St) (lg : Lg) (s : ByteArray) (hs : s.size ≤ 9223372036854775807) (he : putE 1 s = 0) (hl : lg.last < 99999999) (hr : Roomy st) (hsl : Slim lg) (T : Nat → Prop) (l : List GS) (v : Value) (w : World)
    (hf : Fr B w S pd st T w) (h : LogM w T pd pl lg l v) (hbg : lg.hand = false ∨ ∃ l0 y, l = l0 ++ [y] ∧ lg.hand = true ∧ y.s.lens.length = 16) :
    Calls Tryz.prog 12 #[.pointer (some ⟨pl, 0, none⟩), .string s] w (Apd B S pd pl st lg s w) := by
  obtain ⟨i0, hi, hz0, hzz1, hzz2⟩ := info_parts infoS
  have hbgn : lg.hand = false ∨ ∃ s, lg.segs.getLast? = some s ∧ s.lens.length = 16 := by
    rcases hbg with h1 | ⟨l0, y, rfl, _, h3⟩
    · exact .inl h1
    · exact .inr ⟨y.s, lg_tail h, h3⟩
  obtain ⟨hb1, hb2⟩ := begins_new hbgn
  obtain ⟨hz1, hz2⟩ := put_small s he
  have hll : l.length ≤ 1000000 := by have := hsl.len; rw [h.eq, List.length_map] at this; exact this
  have hap : appendL lg st s = if appE st (nameL (lg.last + 1)) (putS 1 s).data.toList ≠ 0 then ⟨lg, appS st (nameL (lg.last + 1)) (putS 1 s).data.toList, 0, appE st (nameL (lg.last + 1)) (putS 1 s).data.toList⟩ else ⟨{ lg with segs := lg.segs ++ [⟨lg.last + 1, [(putS 1 s).size], true⟩], hand := true, nm := true, last := lg.last + 1 }, appS st (nameL (lg.last + 1)) (putS 1 s).data.toList, lg.last + 1, 0⟩ := by
    unfold appendL appended
    rw [if_neg (by rw [he]; simp), if_neg (by omega), hb1, hb2]
    simp [Seg.name]
  have HP := put_any 1 s hs w hf.env.tab
  rw [he] at HP
  replace HP := Lib.hid HP
  have HF := Lib.hid (fun w' (hb : Below w.heap.size w w') => (show Fr B w S pd st (more T w w') w' ∧ LogM w' (more T w w') pd pl lg l v from ⟨hf.below hb, (h.kept fun b hb' => hb.block b (hf.lt b hb')).mono fun b hb' => .inl hb'⟩))
  have HAP := Lib.hid (fun (T2 : Nat → Prop) (w2 : World) (f2 : Fr B w S pd st T2 w2) => f2.append hr (lg.last + 1) (by omega) (putS 1 s) hz1)
  have HQ0 := Lib.hid (show ∀ w', appE st (nameL (lg.last + 1)) (putS 1 s).data.toList ≠ 0 → LStep B S pd pl (appS st (nameL (lg.last + 1)) (putS 1 s).data.toList) lg w w' → Apd B S pd pl st lg s w (.returned (.tuple #[.int .i64 0, .int .i64 (appE st (nameL (lg.last + 1)) (putS 1 s).data.toList)])) w' from fun w' hE hs => by
    unfold Apd; rw [hap, if_pos hE]; exact ⟨rfl, hs⟩)
  have HQ1 := Lib.hid (show ∀ w', appE st (nameL (lg.last + 1)) (putS 1 s).data.toList = 0 → LStep B S pd pl (appS st (nameL (lg.last + 1)) (putS 1 s).data.toList) { lg with segs := lg.segs ++ [⟨lg.last + 1, [(putS 1 s).size], true⟩], hand := true, nm := true, last := lg.last + 1 } w w' → Apd B S pd pl st lg s w (.returned (.tuple #[.int .i64 ((lg.last : Int) + 1), .int .i64 0])) w' from fun w' hE hs => by
    unfold Apd; rw [hap, if_neg (by rw [hE]; simp)]; exact ⟨by simp, hs⟩)
  have HNS := Lib.hid (fun w => (by have := newSeg_any (lg.last + 1) w; rw [show ((lg.last + 1 : Nat) : Int) = (lg.last : Int) + 1 by simp] at this; exact this : Calls Tryz.prog 31 #[.int .i64 ((lg.last : Int) + 1)] w (NewSeg (lg.last + 1) w)))
  have HL := Lib.hid hl
  have hl' : decide ((99999999 : Int) ≤ (lg.last : Int)) = false := decide_eq_false (by omega)
  have hw : wrap64 ((lg.last : Int) + 1) = (lg.last : Int) + 1 := by unfold wrap64; omega
  have HZ1 := Lib.hid hz1
  have HZ2 := Lib.hid hz2
  have HLL := Lib.hid hll
  -- what is in hand
  have HBG : Hid ((handV lg.hand l = .pointer none) ∨ ∃ y, y ∈ l ∧ handV lg.hand l = .pointer (some ⟨y.b, 0, none⟩) ∧ y.s.lens.length = 16) := Lib.hid (by
    rcases hbg with h1 | ⟨l0, y, rfl, h2, h3⟩
    · left; unfold handV; rw [h1]; rfl
    · right; exact ⟨y, by simp, by unfold handV; rw [h2]; simp [ptrV], h3⟩)
  clear hap hb1 hb2 hf h hsl hs he hr hl hbgn hbg hz1 hz2 hll
  generalize Apd B S pd pl st lg s w = Q at HQ0 HQ1 ⊢
  generalize putS 1 s = D at HP HAP HQ0 HQ1 HZ1 HZ2
  obtain ⟨E, hE⟩ : ∃ E, appE st (nameL (lg.last + 1)) D.data.toList = E := ⟨_, rfl⟩
  obtain ⟨st', hst'⟩ : ∃ st', appS st (nameL (lg.last + 1)) D.data.toList = st' := ⟨_, rfl⟩
  rw [hE, hst'] at HAP HQ0 HQ1
  clear hE hst'
  go_enter Tryz.func12, Tryz.ntmps12
  go_wp2_with fail
  refine HP.out.mono ?_
  rintro r w1 ⟨rfl, hb⟩
  obtain ⟨f1, h1⟩ := HF.out w1 hb
  clear hb HP HF
  obtain ⟨c0, -, c2, -, c4, -, -⟩ := h1.cells
  have F1 := Lib.hid f1
  have H1 := Lib.hid h1
  clear f1 h1
  rcases HBG.out with hb0 | ⟨y, hy, hb0, hb3⟩
  · rw [hb0] at c2
    clear hb0 HBG
    go_wp2_with fail
    refine (HNS.out w1).mono ?_
    rintro r w2 hnew
    obtain ⟨x, rfl, hx, f2, h2, hnx⟩ := newly_of F1.out H1.out (by omega) (by have := HL.out; omega) hnew
    clear hnew HNS
    obtain ⟨d0, -, -, -, -, -, -⟩ := h2.cells
    have HN := name_any x B w2.drew (hnx.seg.kept fun _ _ => rfl) hnx.fine (f2.env.kept (w' := w2.drew) (fun _ _ => rfl) (Nat.le_refl _))
    rw [show x.s.first = lg.last + 1 by rw [hx]] at HN
    replace HN := Lib.hid HN
    have HW := Lib.hid (show ∀ w3, Below w2.drew.heap.size w2.drew w3 → Below w2.heap.size w2 w3 ∧ w3.cell? ⟨pl, 0, none⟩ = some (.pointer (some ⟨pd, 0, none⟩)) from fun w3 hb => by
      have hb' : Below w2.heap.size w2 w3 := chain2 (w1 := w2.drew) ⟨rfl, rfl, rfl, Nat.le_refl _, fun _ _ => rfl⟩ hb
      exact ⟨hb', (hb'.cell (p := ⟨pl, 0, none⟩) (f2.lt pl h2.tp)).trans d0⟩)
    have F2 := Lib.hid f2
    have H2 := Lib.hid h2
    have HNX := Lib.hid hnx
    have HX := Lib.hid hx
    clear f2 h2 hnx hx F1 H1 c0 c2
    go_wp2_with fail
    go_cut [10] (fun y wx => y = .int .i64 E ∧ Wrote1 B w S pd st' (more (more T w w1) w1 w2) w2 wx)
    case first =>
      go_region_with (first
        | (go_at_call 33; refine HN.out.mono ?_; rintro r w3 ⟨rfl, hb2⟩; obtain ⟨hb2', d9⟩ := HW.out w3 hb2; replace hb2' := Lib.hid hb2'; clear hb2)
        | (go_at_call 32; refine (HAP.out _ w3 (F2.out.below hb2'.out)).mono ?_; rintro r w4 ⟨rfl, f4, k4, z4⟩; have HWR := Lib.hid (show Wrote1 B w S pd st' (more (more T w w1) w1 w2) w2 w4 from ⟨_, f4, fun b hb => .inl hb, fun b hb => (k4 b (.inl hb)).trans (hb2'.out.block b (F2.out.lt b hb))⟩); clear f4 k4 z4))
      all_goals (go_wp2_with fail; go_meet; exact ⟨rfl, HWR.out⟩)
    case rest =>
      obtain ⟨rfl, T', f3, k1, k2⟩ := hcut
      have h3 := (H2.out.kept k2).mono k1
      have n3 := (HNX.out.kept k2).mono k1
      by_cases hE : E = 0
      · subst hE
        have HQ := Lib.hid (fun w' hs => HQ1.out w' rfl hs)
        obtain ⟨d0, d1, d2, d3, d4, -, fr⟩ := h3.cells
        obtain ⟨gv, cv, av, rfl, -⟩ := h3.row.shape
        have HR := Lib.hid h3.row.row
        have HE := Lib.hid h3.eq
        have HPU := Lib.hid (fun w2 v' hrow hg hv => LogM.push (w2 := w2) (v' := v') f3 h3 n3 hrow hg hv)
        clear h3 n3 f3 k1 k2 H2 F2 HQ0 HQ1 HN HW HAP HNX fr
        go_wp2_with (at_builtin; refine wpList_append_own_at _ rfl _ _ 52 rfl 0 54 i0 (.pointer none) 1 8 Tryz.underlying52 hi hz0 hzz1 hzz2 rfl (by decide) _ _ _ rfl (HR.out.alloc _) ⟨_, 0, none⟩ 1 1 [_] rfl rfl (cell_one_new _ _ _) (by simp [Value.oneCell']) (by have := HLL.out; unfold maxLen; omega) (by have := HLL.out; omega) (by simp) ?_)
        intro v' w5 hrow hg _ hv'
        obtain ⟨hc5, f6, h6⟩ := HPU.out w5 v' hrow hg hv'
        obtain ⟨a', n', c', rfl⟩ : ∃ a n c, v' = .slice a n c := by
          rcases hrow.2 with ⟨e, _⟩ | ⟨_, _, _, e, _⟩
          · exact ⟨_, _, _, e⟩
          · exact ⟨_, _, _, e⟩
        have e1 : w5.cell? ⟨pl, 1, none⟩ = some (.slice av l.length cv) := by rw [Lib.cell_of_heap hc5]; rfl
        have e2 : (w5.setCell ⟨pl, 1, none⟩ (.slice a' n' c')).cell? ⟨pl, 2, none⟩ = some (handV lg.hand l) := (World.cell?_setCell_other _ _ _ _ (by simp)).trans (by rw [Lib.cell_of_heap hc5]; rfl)
        have e4 := Lib.frozen_of_heap hc5 1
        have e5 := Lib.frozen_of_heap hc5 2
        have e6 := Lib.frozen_of_heap hc5 3
        have e3 := h6.cells.2.2.2.1
        simp only at e3
        obtain ⟨f7, h7⟩ := LogM.set f6 h6 (lg' := { lg with segs := (l ++ [x]).map (·.s), hand := true, nm := true }) (x := .bool true) 3 rfl h6.last h6.dur (fun _ => by simp) rfl
        have hfx := h7.segs.fine x (by simp)
        have HG := Lib.hid (grow_any x D.size _ (h7.segs.seg x (by simp)) hfx (by have := HZ1.out; omega))
        have HA := Lib.hid (fun r w2 hg => apd_grown (w2 := w2) (e := r) f7 h7 HL.out (by rw [HX.out]; have := HZ1.out; simp; omega) HZ2.out hg)
        have HEQ := Lib.hid (show ({ lg with segs := ((l ++ [x]).map (·.s)).dropLast ++ [⟨x.s.first, x.s.lens ++ [D.size], true⟩], hand := true, nm := true, last := lg.last + 1 } : Lg) = { lg with segs := lg.segs ++ [⟨lg.last + 1, [D.size], true⟩], hand := true, nm := true, last := lg.last + 1 } by
          rw [HX.out, HE.out, List.map_append, List.map_singleton, List.dropLast_concat]; rfl)
        unfold ptrV at e3 HG HA
        clear hrow hg hv' hc5 f6 h6 f7 h7 hfx HPU HR d0 d1 d2 d3 d4
        go_wp2_with fail
        refine HG.out.mono ?_
        rintro r w6 hg
        obtain ⟨rfl, ⟨g1, g2⟩, ⟨g3, g4⟩, hst⟩ := HA.out r w6 hg
        have HQ2 := Lib.hid (HQ.out _ (by rw [← HEQ.out]; exact hst))
        have g5 := World.cell?_setCell_same (w6.setCell ⟨x.b, 2, none⟩ (.bool true)) ⟨pl, 4, none⟩ (.int .i64 ((lg.last : Int) + 1)) g3
        clear hg hst HG HA HQ
        go_wp2
        exact HQ2.out
      · have hne : (E != 0) = true := by simp; exact hE
        have HQ := Lib.hid (HQ0.out _ hE (LStep.of f3 h3))
        clear h3 n3 f3 k1 k2 H2 F2 HQ0 HQ1 HN HW HAP HNX
        go_wp2
        exact HQ.out
  · rw [hb0] at c2
    have HCT := Lib.hid (count_any y w1 (H1.out.segs.seg y hy) (H1.out.segs.fine y hy))
    have h16 : ((y.s.lens.length : Int) == 16) = true := by rw [hb3]; rfl
    clear hb0 HBG hb3
    go_wp2_with (go_at_call 30; refine HCT.out.mono ?_; rintro r w0 ⟨rfl, rfl⟩)
    refine (HNS.out w1).mono ?_
    rintro r w2 hnew
    obtain ⟨x, rfl, hx, f2, h2, hnx⟩ := newly_of F1.out H1.out (by omega) (by have := HL.out; omega) hnew
    clear hnew HNS
    obtain ⟨d0, -, -, -, -, -, -⟩ := h2.cells
    have HN := name_any x B w2.drew (hnx.seg.kept fun _ _ => rfl) hnx.fine (f2.env.kept (w' := w2.drew) (fun _ _ => rfl) (Nat.le_refl _))
    rw [show x.s.first = lg.last + 1 by rw [hx]] at HN
    replace HN := Lib.hid HN
    have HW := Lib.hid (show ∀ w3, Below w2.drew.heap.size w2.drew w3 → Below w2.heap.size w2 w3 ∧ w3.cell? ⟨pl, 0, none⟩ = some (.pointer (some ⟨pd, 0, none⟩)) from fun w3 hb => by
      have hb' : Below w2.heap.size w2 w3 := chain2 (w1 := w2.drew) ⟨rfl, rfl, rfl, Nat.le_refl _, fun _ _ => rfl⟩ hb
      exact ⟨hb', (hb'.cell (p := ⟨pl, 0, none⟩) (f2.lt pl h2.tp)).trans d0⟩)
    have F2 := Lib.hid f2
    have H2 := Lib.hid h2
    have HNX := Lib.hid hnx
    have HX := Lib.hid hx
    clear f2 h2 hnx hx F1 H1 c0 c2
    go_wp2_with fail
    go_cut [10] (fun y wx => y = .int .i64 E ∧ Wrote1 B w S pd st' (more (more T w w1) w1 w2) w2 wx)
    case first =>
      go_region_with (first
        | (go_at_call 33; refine HN.out.mono ?_; rintro r w3 ⟨rfl, hb2⟩; obtain ⟨hb2', d9⟩ := HW.out w3 hb2; replace hb2' := Lib.hid hb2'; clear hb2)
        | (go_at_call 32; refine (HAP.out _ w3 (F2.out.below hb2'.out)).mono ?_; rintro r w4 ⟨rfl, f4, k4, z4⟩; have HWR := Lib.hid (show Wrote1 B w S pd st' (more (more T w w1) w1 w2) w2 w4 from ⟨_, f4, fun b hb => .inl hb, fun b hb => (k4 b (.inl hb)).trans (hb2'.out.block b (F2.out.lt b hb))⟩); clear f4 k4 z4))
      all_goals (go_wp2_with fail; go_meet; exact ⟨rfl, HWR.out⟩)
    case rest =>
      obtain ⟨rfl, T', f3, k1, k2⟩ := hcut
      have h3 := (H2.out.kept k2).mono k1
      have n3 := (HNX.out.kept k2).mono k1
      by_cases hE : E = 0
      · subst hE
        have HQ := Lib.hid (fun w' hs => HQ1.out w' rfl hs)
        obtain ⟨d0, d1, d2, d3, d4, -, fr⟩ := h3.cells
        obtain ⟨gv, cv, av, rfl, -⟩ := h3.row.shape
        have HR := Lib.hid h3.row.row
        have HE := Lib.hid h3.eq
        have HPU := Lib.hid (fun w2 v' hrow hg hv => LogM.push (w2 := w2) (v' := v') f3 h3 n3 hrow hg hv)
        clear h3 n3 f3 k1 k2 H2 F2 HQ0 HQ1 HN HW HAP HNX fr
        go_wp2_with (at_builtin; refine wpList_append_own_at _ rfl _ _ 52 rfl 0 54 i0 (.pointer none) 1 8 Tryz.underlying52 hi hz0 hzz1 hzz2 rfl (by decide) _ _ _ rfl (HR.out.alloc _) ⟨_, 0, none⟩ 1 1 [_] rfl rfl (cell_one_new _ _ _) (by simp [Value.oneCell']) (by have := HLL.out; unfold maxLen; omega) (by have := HLL.out; omega) (by simp) ?_)
        intro v' w5 hrow hg _ hv'
        obtain ⟨hc5, f6, h6⟩ := HPU.out w5 v' hrow hg hv'
        obtain ⟨a', n', c', rfl⟩ : ∃ a n c, v' = .slice a n c := by
          rcases hrow.2 with ⟨e, _⟩ | ⟨_, _, _, e, _⟩
          · exact ⟨_, _, _, e⟩
          · exact ⟨_, _, _, e⟩
        have e1 : w5.cell? ⟨pl, 1, none⟩ = some (.slice av l.length cv) := by rw [Lib.cell_of_heap hc5]; rfl
        have e2 : (w5.setCell ⟨pl, 1, none⟩ (.slice a' n' c')).cell? ⟨pl, 2, none⟩ = some (handV lg.hand l) := (World.cell?_setCell_other _ _ _ _ (by simp)).trans (by rw [Lib.cell_of_heap hc5]; rfl)
        have e4 := Lib.frozen_of_heap hc5 1
        have e5 := Lib.frozen_of_heap hc5 2
        have e6 := Lib.frozen_of_heap hc5 3
        have e3 := h6.cells.2.2.2.1
        simp only at e3
        obtain ⟨f7, h7⟩ := LogM.set f6 h6 (lg' := { lg with segs := (l ++ [x]).map (·.s), hand := true, nm := true }) (x := .bool true) 3 rfl h6.last h6.dur (fun _ => by simp) rfl
        have hfx := h7.segs.fine x (by simp)
        have HG := Lib.hid (grow_any x D.size _ (h7.segs.seg x (by simp)) hfx (by have := HZ1.out; omega))
        have HA := Lib.hid (fun r w2 hg => apd_grown (w2 := w2) (e := r) f7 h7 HL.out (by rw [HX.out]; have := HZ1.out; simp; omega) HZ2.out hg)
        have HEQ := Lib.hid (show ({ lg with segs := ((l ++ [x]).map (·.s)).dropLast ++ [⟨x.s.first, x.s.lens ++ [D.size], true⟩], hand := true, nm := true, last := lg.last + 1 } : Lg) = { lg with segs := lg.segs ++ [⟨lg.last + 1, [D.size], true⟩], hand := true, nm := true, last := lg.last + 1 } by
          rw [HX.out, HE.out, List.map_append, List.map_singleton, List.dropLast_concat]; rfl)
        unfold ptrV at e3 HG HA
        clear hrow hg hv' hc5 f6 h6 f7 h7 hfx HPU HR d0 d1 d2 d3 d4
        go_wp2_with fail
        refine HG.out.mono ?_
        rintro r w6 hg
        obtain ⟨rfl, ⟨g1, g2⟩, ⟨g3, g4⟩, hst⟩ := HA.out r w6 hg
        have HQ2 := Lib.hid (HQ.out _ (by rw [← HEQ.out]; exact hst))
        have g5 := World.cell?_setCell_same (w6.setCell ⟨x.b, 2, none⟩ (.bool true)) ⟨pl, 4, none⟩ (.int .i64 ((lg.last : Int) + 1)) g3
        clear hg hst HG HA HQ
        go_wp2
        exact HQ2.out
      · have hne : (E != 0) = true := by simp; exact hE
        have HQ := Lib.hid (HQ0.out _ hE (LStep.of f3 h3))
        clear h3 n3 f3 k1 k2 H2 F2 HQ0 HQ1 HN HW HAP HNX
        go_wp2
        exact HQ.out

/-- Append, of any text. -/
theorem append_any (B : Nat) (S : Nat → Prop) (pd pl : Nat) (st : St) (lg : Lg) (s : ByteArray) (hs : s.size ≤ 9223372036854775807) (hr : Roomy st) (hsl : Slim lg) (w : World) (h : LG B w S pd pl st lg) :
    Calls Tryz.prog 12 #[.pointer (some ⟨pl, 0, none⟩), .string s] w (Apd B S pd pl st lg s w) := by
  obtain ⟨T, l, v, hf, h⟩ := h
  by_cases he : putE 1 s = 0
  · by_cases hl : 99999999 ≤ lg.last
    · exact append_full B S pd pl st lg s hs he hl T l v w hf h
    · cases hh : lg.hand with
      | false => exact append_new B S pd pl st lg s hs he (by omega) hr hsl T l v w hf h (.inl hh)
      | true =>
        have hne := h.hand hh
        obtain ⟨l0, x, rfl⟩ : ∃ l0 x, l = l0 ++ [x] := ⟨l.dropLast, l.getLast hne, (List.dropLast_concat_getLast hne).symm⟩
        by_cases hx : x.s.lens.length = 16
        · exact append_new B S pd pl st lg s hs he (by omega) hr hsl T _ v w hf h (.inr ⟨l0, x, rfl, hh, hx⟩)
        · exact append_hand B S pd pl st lg s hs he (by omega) hr hsl hh T l0 x hx v w hf h
  · exact append_err B S pd pl st lg s hs he T l v w hf h
end Wal
end Go.Proofs.YtlgjbdfnhaoloaaGreatDoor
end

/- Read and Sync (layer 5). -/
section
set_option linter.unusedSimpArgs false
set_option linter.unusedVariables false
namespace Go.Proofs.YtlgjbdfnhaoloaaGreatDoor
open Go.RowKit Go.Sort
namespace Wal
open Dig Frm Dsk

/-- What Read leaves: no more than the answer. -/
def Rd (B : Nat) (S : Nat → Prop) (pd pl : Nat) (st : St) (lg : Lg) (a : ByteArray × Int) (w : World) (r : Ending) (w' : World) : Prop :=
  r = .returned (.tuple #[.string a.1, .int .i64 a.2]) ∧ LStep B S pd pl st lg w w'

theorem Fr.read {B : Nat} {W w : World} {S T : Nat → Prop} {pd : Nat} {st : St} (h : Fr B W S pd st T w) (n : Nat) (hn : n ≤ 99999999) :
    Calls Tryz.prog 52 #[.pointer (some ⟨pd, 0, none⟩), .string (nameB n)] w fun e w' => e = .returned (.tuple #[.string (fileB st (nameL n)), .int .i64 (readE st (nameL n))]) ∧ Fr B W S pd st T w' ∧ (∀ b, T b → w'.heap[b]? = w.heap[b]?) ∧ w.heap.size ≤ w'.heap.size :=
  h.step (P := fun e => e = .returned (.tuple #[.string (fileB st (nameL n)), .int .i64 (readE st (nameL n))])) fun Sd hd => by
    have hns : (nameB n).size ≤ maxLen := by
      have e : (nameB n).size = (nameL n).length := rfl
      rw [e, name_length _ hn]; unfold maxLen; omega
    have := read_any Sd pd st (nameB n) hns w hd
    rw [nameB_list] at this
    exact this

/-- Nothing has turned but what is new. -/
def Stay (B : Nat) (W : World) (S : Nat → Prop) (pd pl : Nat) (st : St) (lg : Lg) (l : List GS) (v : Value) (w' : World) : Prop := ∃ T', Fr B W S pd st T' w' ∧ LogM w' T' pd pl lg l v
theorem Stay.below {B : Nat} {W w w' : World} {S : Nat → Prop} {pd pl : Nat} {st : St} {lg : Lg} {l : List GS} {v : Value} (h : Stay B W S pd pl st lg l v w) (hb : Below w.heap.size w w') : Stay B W S pd pl st lg l v w' := by
  obtain ⟨T, f, h⟩ := h
  exact ⟨_, f.below hb, (h.kept fun b hb' => hb.block b (f.lt b hb')).mono fun b hb' => .inl hb'⟩

set_option maxHeartbeats 3200000 in
set_option maxRecDepth 100000 in
theorem readFrom_any (B : Nat) (W : World) (S T : Nat → Prop) (pd pl : Nat) (st : St) (hF : ∀ f ∈ st.F, f.s.length ≤ 1000000000000) (lg : Lg) (l : List GS) (x : GS) (hx : x ∈ l) (n : Nat) (hn : x.s.first ≤ n ∧ n ≤ x.s.last) (v : Value) (w : World) (hf : Fr B W S pd st T w) (h : LogM w T pd pl lg l v) :
    Calls Tryz.prog 43 #[.pointer (some ⟨pl, 0, none⟩), .pointer (some ⟨x.b, 0, none⟩), .int .i64 (n : Int)] w fun r w' =>
      r = .returned (.tuple #[.string (readFromL st x.s n).1, .int .i64 (readFromL st x.s n).2]) ∧ Stay B W S pd pl st lg l v w' := by
  have hfx := h.segs.fine x hx
  have htop := hfx.top
  have hlen : n - x.s.first ≤ x.s.lens.length := by have := hfx.pos; have := hn.2; unfold Seg.last at this; omega
  obtain ⟨d0, -, -, -, -, -, -⟩ := h.cells
  have HN := Lib.hid (name_any x B w.drew ((h.segs.seg x hx).kept fun _ _ => rfl) hfx (hf.env.kept (w' := w.drew) (fun _ _ => rfl) (Nat.le_refl _)))
  have HW := Lib.hid (show ∀ w3, Below w.drew.heap.size w.drew w3 → Below w.heap.size w w3 ∧ w3.cell? ⟨pl, 0, none⟩ = some (.pointer (some ⟨pd, 0, none⟩)) from fun w3 hb => by
      have hb' : Below w.heap.size w w3 := chain2 (w1 := w.drew) ⟨rfl, rfl, rfl, Nat.le_refl _, fun _ _ => rfl⟩ hb
      exact ⟨hb', (hb'.cell (p := ⟨pl, 0, none⟩) (hf.lt pl h.tp)).trans d0⟩)
  have HRD := Lib.hid (fun (T2 : Nat → Prop) (w2 : World) (f2 : Fr B W S pd st T2 w2) => f2.read x.s.first htop)
  have hfile := read_file st hF x.s.name
  obtain ⟨a1, a2, hA⟩ : ∃ a1 a2, readFromL st x.s n = (a1, a2) := ⟨_, _, rfl⟩
  rw [hA]
  unfold readFromL at hA
  have hxn : x.s.name = nameL x.s.first := rfl
  rw [hxn] at hfile hA
  have F1 := Lib.hid hf
  have H1 := Lib.hid h
  have HX := Lib.hid hx
  have HFX := Lib.hid hfx
  clear hf h hx hfx hF hxn htop
  obtain ⟨E, hE⟩ : ∃ E, readE st (nameL x.s.first) = E := ⟨_, rfl⟩
  obtain ⟨D, hD⟩ : ∃ D, fileB st (nameL x.s.first) = D := ⟨_, rfl⟩
  rw [hE, hD] at HRD hA
  rw [hD] at hfile
  clear hE hD
  have hk : (n : Int) - (x.s.first : Int) = ((n - x.s.first : Nat) : Int) := by omega
  obtain ⟨k, hkk⟩ : ∃ k, n - x.s.first = k := ⟨_, rfl⟩
  rw [hkk] at hk hlen hA
  clear hkk
  have HA := Lib.hid hA
  clear hA
  go_enter Tryz.func43, Tryz.ntmps43
  go_wp2_with fail
  go_cut [8, 9] (fun y z wx => y = .string D ∧ z = .int .i64 E ∧ Wrote1 B W S pd st T w wx)
  case first =>
    go_region_with (first
      | (go_at_call 33; refine HN.out.mono ?_; rintro r w3 ⟨rfl, hb2⟩; obtain ⟨hb2', d9⟩ := HW.out w3 hb2; replace hb2' := Lib.hid hb2'; clear hb2)
      | (go_at_call 52; refine (HRD.out _ w3 (F1.out.below hb2'.out)).mono ?_; rintro r w4 ⟨rfl, f4, k4, z4⟩; have HWR := Lib.hid (show Wrote1 B W S pd st T w w4 from ⟨_, f4, fun b hb => .inl hb, fun b hb => (k4 b (.inl hb)).trans (hb2'.out.block b (F1.out.lt b hb))⟩); clear f4 k4 z4))
    all_goals (go_wp2_with fail; go_meet; exact ⟨rfl, rfl, HWR.out⟩)
  case rest =>
    obtain ⟨rfl, rfl, T', f3, k1, k2⟩ := hcut
    have h3 := (H1.out.kept k2).mono k1
    clear HN HW HRD H1 F1 k1 k2
    by_cases hE : E = 0
    · subst hE
      have hsg := h3.segs.seg x HX.out
      obtain ⟨g, c, hv, hg, hc1, hc2⟩ := hsg.shape
      obtain ⟨c0, c1, -, -⟩ := hsg.cells
      have hce := hsg.cell_at (g := g) (by rw [hv]; rfl) k hlen
      rw [hv] at c1
      have hsl := sum_take_le x.s.lens k
      have hss := HFX.out.size
      have hlenb := HFX.out.len
      have HST := Lib.hid (show Stay B W S pd pl st lg l v _ from ⟨T', f3, h3⟩)
      have HEN := Lib.hid f3.env
      have hki : (k : Int) < ((x.s.lens.length + 1 : Nat) : Int) := by omega
      have hkw : IntKind.i64.wrap ((n : Int) - (x.s.first : Int)) = (k : Int) := by rw [hk]; exact IntWalk.i64_in _ (by omega)
      clear f3 h3 hsg hv hg
      have hA := HA.out
      rw [if_neg (by simp)] at hA
      generalize (x.s.lens.take k).sum = A at *
      by_cases hlt : D.size < A
      · rw [if_pos hlt] at hA
        obtain ⟨rfl, rfl⟩ : a1 = ⟨#[]⟩ ∧ a2 = 12 := by injection hA with h1 h2; exact ⟨h1.symm, h2.symm⟩
        have hlt' : (D.size : Int) < (A : Int) := by omega
        clear hA HA hk
        go_wp2_with fail
        go_quiet (fail)
        have HST2 := Lib.hid (fun n => HST.out.below (w' := wc.drewN n) ⟨rfl, rfl, rfl, Nat.le_refl _, fun _ _ => rfl⟩)
        clear HST
        go_wp2
        go_ret2
        exact ⟨rfl, HST2.out _⟩
      · rw [if_neg hlt] at hA
        have hlt' : ¬ (A : Int) > (D.size : Int) := by omega
        have hAle : (A : Int) ≤ (D.size : Int) := by omega
        have hget := Lib.hid (fun (n : Nat) => Frm.get_any (D.extract A D.size) (by rw [ByteArray.size_extract]; omega) (wc.drewN n) ⟨HEN.out.tab.c0, HEN.out.tab.c1, HEN.out.tab.pos⟩)
        generalize gotF (D.extract A D.size) = G at *
        obtain ⟨gk, gd, gz, ge⟩ := G
        simp only at hA hget
        have HA2 := Lib.hid hA
        clear hA HA hk
        go_wp2_with fail
        go_quiet (fail)
        have HST2 := Lib.hid (fun w2 (hb : Below (wc.drewN nq).heap.size (wc.drewN nq) w2) => HST.out.below (of_drewN hb))
        clear HST
        by_cases hge : ge = 0
        · subst hge
          obtain ⟨rfl, rfl⟩ : a1 = gd ∧ a2 = 0 := by have h := HA2.out; rw [if_neg (by simp)] at h; injection h with h1 h2; exact ⟨h1.symm, h2.symm⟩
          clear HA2
          go_wp2_with fail
          refine (hget.out nq).mono ?_
          rintro r w2 ⟨rfl, hb2⟩
          have HST3 := Lib.hid (fun o => (HST2.out w2 hb2).below (w' := w2.alloc o) ((Below.refl _ _).alloc (Nat.le_refl _) _))
          clear hb2 HST2 hget
          go_wp2
          go_ret2
          exact ⟨rfl, HST3.out _⟩
        · have hgn : ((ge : Int) != 0) = true := by simp; omega
          obtain ⟨rfl, rfl⟩ : a1 = ⟨#[]⟩ ∧ a2 = 12 := by have h := HA2.out; rw [if_pos (by omega)] at h; injection h with h1 h2; exact ⟨h1.symm, h2.symm⟩
          clear HA2
          go_wp2_with fail
          refine (hget.out nq).mono ?_
          rintro r w2 ⟨rfl, hb2⟩
          have HST3 := Lib.hid (fun o => (HST2.out w2 hb2).below (w' := w2.alloc o) ((Below.refl _ _).alloc (Nat.le_refl _) _))
          clear hb2 HST2 hget
          go_wp2
          go_ret2
          exact ⟨rfl, HST3.out _⟩
    · have hne : (E != 0) = true := by simp; exact hE
      obtain ⟨rfl, rfl⟩ : a1 = ⟨#[]⟩ ∧ a2 = E := by have h := HA.out; rw [if_pos hE] at h; injection h with h1 h2; exact ⟨h1.symm, h2.symm⟩
      have HST := Lib.hid (show Stay B W S pd pl st lg l v _ from ⟨T', f3, h3⟩)
      clear f3 h3 hk HA
      go_wp2
      go_ret2
      exact ⟨rfl, HST.out⟩

/-! ### Read -/
theorem readL_skip {st : St} {n : Int} {s : Seg} {r : List Seg} (h : ¬ ((s.first : Int) ≤ n ∧ n ≤ (s.last : Int))) : readL st n (s :: r) = readL st n r := by
  conv => lhs; unfold readL
  rw [if_neg h]
theorem readL_here {st : St} {n : Int} {s : Seg} {r : List Seg} (h : (s.first : Int) ≤ n ∧ n ≤ (s.last : Int)) : readL st n (s :: r) = readFromL st s n.toNat := by
  conv => lhs; unfold readL
  rw [if_pos h]

set_option maxHeartbeats 3200000 in
set_option maxRecDepth 100000 in
theorem read_any' (B : Nat) (S : Nat → Prop) (pd pl : Nat) (st : St) (lg : Lg) (n : Int) (hn : -9223372036854775808 ≤ n ∧ n ≤ 9223372036854775807) (hF : ∀ f ∈ st.F, f.s.length ≤ 1000000000000) (w : World) (h : LG B w S pd pl st lg) :
    Calls Tryz.prog 17 #[.pointer (some ⟨pl, 0, none⟩), .int .i64 n] w (Rd B S pd pl st lg (readL st n lg.segs) w) := by
  obtain ⟨T, l, v, hf, h⟩ := h
  obtain ⟨-, c1, -, -, -, -, -⟩ := h.cells
  obtain ⟨g, c, a, rfl, ha, hl1, hl2, hc⟩ := h.row.shape
  unfold maxLen at hl2
  have HA := Lib.hid ha
  have HC := Lib.hid hc
  have HE := Lib.hid h.eq
  have HS := Lib.hid h.segs
  have HST := Lib.hid (show Stay B w S pd pl st lg l _ w from ⟨T, hf, h⟩)
  have HRF := Lib.hid (fun (x : GS) (hx : x ∈ l) (n : Nat) (hn : x.s.first ≤ n ∧ n ≤ x.s.last) (k : Nat) => readFrom_any B w S T pd pl st hF lg l x hx n hn _ (w.drewN k) ((hf.own (w1 := w.drewN k) ⟨rfl, rfl, rfl, Nat.le_refl _, fun _ _ _ => rfl⟩).narrow fun b hb => .inl hb) (h.kept fun _ _ => rfl))
  obtain ⟨a1, a2, hans⟩ : ∃ a1 a2, readL st n lg.segs = (a1, a2) := ⟨_, _, rfl⟩
  have HQ := Lib.hid (show ∀ w', Stay B w S pd pl st lg l (.slice a l.length c) w' → Rd B S pd pl st lg (readL st n lg.segs) w (.returned (.tuple #[.string a1, .int .i64 a2])) w' from fun w' ⟨T', f', h'⟩ => by unfold Rd; rw [hans]; exact ⟨rfl, LStep.of f' h'⟩)
  rw [h.eq] at hans
  have HANS := Lib.hid hans
  clear h hf ha hc hans hF
  generalize Rd B S pd pl st lg (readL st n lg.segs) w = Q at HQ ⊢
  go_enter Tryz.func17, Tryz.ntmps17
  go_wp2_with fail
  go_loopw [13] (fun i wr => ∃ k : Nat, k ≤ l.length ∧ i = .int .i64 k ∧ readL st n (l.map (·.s)) = readL st n ((l.map (·.s)).drop k) ∧ ∃ m, wr = w.drewN m) (fun i _ => l.length - (intOf i).toNat)
  case atStart => exact ⟨0, Nat.zero_le _, rfl, rfl, 0, rfl⟩
  case round =>
    obtain ⟨k, hk, rfl, hrd, m, rfl⟩ := hrel
    by_cases hlt : k < l.length
    · obtain ⟨x, hx⟩ : ∃ x, l[k]? = some x := ⟨_, List.getElem?_eq_getElem hlt⟩
      have hne : l ≠ [] := by intro e; rw [e] at hlt; simp at hlt
      obtain rfl := HA.out hne
      have hcx := (HC.out hne).2.2 k x hx
      unfold ptrV at hcx
      have hxm := List.mem_of_getElem? hx
      have hseg := HS.out.seg x hxm
      have hfine := HS.out.fine x hxm
      obtain ⟨c0, -, -, -⟩ := hseg.cells
      have hd : (l.map (·.s)).drop k = x.s :: (l.map (·.s)).drop (k + 1) := by
        have hk' : k < (l.map (·.s)).length := by simpa using hlt
        rw [List.drop_eq_getElem_cons hk']
        congr 1
        rw [List.getElem_map, (List.getElem?_eq_some_iff.1 hx).2]
      rw [hd] at hrd
      have HRD := Lib.hid hrd
      have HL := Lib.hid (last_any x (w.drewN m) (hseg.drewN m) hfine)
      by_cases hin : (x.s.first : Int) ≤ n ∧ n ≤ (x.s.last : Int)
      · obtain ⟨n, rfl⟩ := Int.eq_ofNat_of_zero_le (show 0 ≤ n by omega)
        have hres : readFromL st x.s n = (a1, a2) := by
          rw [← HANS.out, HRD.out, readL_here hin]; rfl
        have HRF2 := Lib.hid (fun m2 => (by
          have := HRF.out x hxm n ⟨by omega, by omega⟩ m2
          rw [hres] at this
          exact this : Calls Tryz.prog 43 #[.pointer (some ⟨pl, 0, none⟩), .pointer (some ⟨x.b, 0, none⟩), .int .i64 (n : Int)] (w.drewN m2) fun r w' => r = .returned (.tuple #[.string a1, .int .i64 a2]) ∧ Stay B w S pd pl st lg l _ w'))
        obtain ⟨hi1, hi2⟩ := hin
        clear hrd hres HRD hseg hfine hx hne hd HRF HANS HS HC HA
        go_wp2_with fail
        refine HL.out.mono ?_
        rintro r w2 ⟨rfl, m2, rfl⟩
        go_wp2_with fail
        refine (HRF2.out _).mono ?_
        rintro r w3 ⟨rfl, hst⟩
        have HQ2 := Lib.hid (HQ.out w3 hst)
        clear hst HRF2 HL
        go_wp2
        exact HQ2.out
      · have hsk : readL st n (l.map (·.s)) = readL st n ((l.map (·.s)).drop (k + 1)) := by rw [HRD.out, readL_skip hin]
        have HSK := Lib.hid hsk
        by_cases hi1 : (x.s.first : Int) ≤ n
        · have hi2 : ¬ n ≤ (x.s.last : Int) := fun h => hin ⟨hi1, h⟩
          clear hrd HRD hseg hfine hx hne hd HRF HANS hin hsk
          go_wp2_with fail
          refine HL.out.mono ?_
          rintro r w2 ⟨rfl, m2, rfl⟩
          clear HL
          go_wp2
          go_roundw
          case rel => exact ⟨k + 1, by omega, by go_num, HSK.out, m + m2, by first | rfl | rw [World.drewN_drewN]⟩
          case measure => simp [intOf]; omega
        · clear hrd HRD hseg hfine hx hne hd HRF HANS hin hsk
          go_wp2_with fail
          go_roundw
          case rel => exact ⟨k + 1, by omega, by go_num, HSK.out, m, rfl⟩
          case measure => simp [intOf]; omega
    · obtain rfl : k = l.length := by omega
      have hend : (a1, a2) = ((⟨#[]⟩ : ByteArray), (12 : Int)) := by rw [← HANS.out, hrd, List.drop_of_length_le (by simp)]; rfl
      obtain ⟨rfl, rfl⟩ : a1 = ⟨#[]⟩ ∧ a2 = 12 := by injection hend with h1 h2; exact ⟨h1, h2⟩
      have HQ2 := Lib.hid (HQ.out (w.drewN m) (HST.out.below ⟨rfl, rfl, rfl, Nat.le_refl _, fun _ _ => rfl⟩))
      clear hrd hend HQ HRF HANS HS HC HA
      go_wp2
      exact HQ2.out
end Wal
end Go.Proofs.YtlgjbdfnhaoloaaGreatDoor
end

/- Sync (layer 5). -/
section
set_option linter.unusedSimpArgs false
set_option linter.unusedVariables false
namespace Go.Proofs.YtlgjbdfnhaoloaaGreatDoor
open Go.RowKit Go.Sort
namespace Wal
open Dig Frm Dsk

/-- What Sync leaves. -/
def Did (B : Nat) (S : Nat → Prop) (pd pl : Nat) (d : Done) (w : World) (r : Ending) (w' : World) : Prop := r = .returned (.int .i64 d.err) ∧ LStep B S pd pl d.st d.lg w w'

theorem Fr.sync {B : Nat} {W w : World} {S T : Nat → Prop} {pd : Nat} {st : St} (h : Fr B W S pd st T w) (n : Nat) (hn : n ≤ 99999999) :
    Calls Tryz.prog 35 #[.pointer (some ⟨pd, 0, none⟩), .string (nameB n)] w fun e w' => e = .returned (.int .i64 (syncE st (nameL n))) ∧ Fr B W S pd (syncS st (nameL n)) T w' ∧ (∀ b, T b → w'.heap[b]? = w.heap[b]?) ∧ w.heap.size ≤ w'.heap.size :=
  h.step (P := fun e => e = .returned (.int .i64 (syncE st (nameL n)))) fun Sd hd => by
    have hns : (nameB n).size ≤ maxLen := by
      have e : (nameB n).size = (nameL n).length := rfl
      rw [e, name_length _ hn]; unfold maxLen; omega
    have := sync_any Sd pd st (nameB n) hns w hd
    rw [nameB_list] at this
    exact this
theorem Fr.syncNames {B : Nat} {W w : World} {S T : Nat → Prop} {pd : Nat} {st : St} (h : Fr B W S pd st T w) :
    Calls Tryz.prog 36 #[.pointer (some ⟨pd, 0, none⟩)] w fun e w' => e = .returned (.int .i64 (snE st)) ∧ Fr B W S pd (snS st) T w' ∧ (∀ b, T b → w'.heap[b]? = w.heap[b]?) ∧ w.heap.size ≤ w'.heap.size :=
  h.step (P := fun e => e = .returned (.int .i64 (snE st))) fun Sd hd => sn_any Sd pd st w hd

/-- Two steps of a call on segments. -/
def Tidied.after (p : List Seg) (t : Tidied) : Tidied := ⟨p ++ t.segs, t.st, t.err⟩
theorem syncSegs_skip {s : Seg} {r : List Seg} {st : St} (h : s.marked = false) : syncSegs (s :: r) st = Tidied.after [s] (syncSegs r st) := by
  conv => lhs; unfold syncSegs
  rw [if_neg (by simp [h])]; rfl
theorem syncSegs_err {s : Seg} {r : List Seg} {st : St} (h : s.marked = true) (he : syncE st s.name ≠ 0) : syncSegs (s :: r) st = ⟨s :: r, syncS st s.name, syncE st s.name⟩ := by
  unfold syncSegs
  rw [if_pos h, if_pos he]
theorem syncSegs_ok {s : Seg} {r : List Seg} {st : St} (h : s.marked = true) (he : syncE st s.name = 0) : syncSegs (s :: r) st = Tidied.after [{ s with marked := false }] (syncSegs r (syncS st s.name)) := by
  conv => lhs; unfold syncSegs
  rw [if_pos h, if_neg (by simp [he])]; rfl
theorem after_after (p q : List Seg) (t : Tidied) : Tidied.after p (Tidied.after q t) = Tidied.after (p ++ q) t := by unfold Tidied.after; simp

/-- What holds at the head of each round: those ahead are synced, the others are as they were. -/
def Syncing (B : Nat) (W : World) (S : Nat → Prop) (pd pl : Nat) (st : St) (lg : Lg) (l : List GS) (v : Value) (k : Nat) (w' : World) : Prop :=
  ∃ T P st', P.length = k ∧ Fr B W S pd st' T w' ∧ LogM w' T pd pl { lg with segs := (P ++ l.drop k).map (·.s) } (P ++ l.drop k) v ∧ syncSegs lg.segs st = Tidied.after (P.map (·.s)) (syncSegs ((l.drop k).map (·.s)) st')

theorem sync_skip {B : Nat} {W w : World} {S : Nat → Prop} {pd pl : Nat} {st : St} {lg : Lg} {l : List GS} {v : Value} {k : Nat} (h : Syncing B W S pd pl st lg l v k w) {x : GS} (hx : l[k]? = some x) (hm : x.s.marked = false) : Syncing B W S pd pl st lg l v (k + 1) w := by
  obtain ⟨T, P, st', h1, h2, h3, h4⟩ := h
  have hk := (List.getElem?_eq_some_iff.1 hx).1
  have hd : l.drop k = x :: l.drop (k + 1) := by rw [List.drop_eq_getElem_cons hk, (List.getElem?_eq_some_iff.1 hx).2]
  rw [hd] at h3 h4
  refine ⟨T, P ++ [x], st', by simp [h1], h2, ?_, ?_⟩
  · rw [List.append_assoc]; exact h3
  · rw [h4, List.map_cons, syncSegs_skip hm, after_after, List.map_append]; rfl
theorem sync_mark {B : Nat} {W w w2 : World} {S T T2 : Nat → Prop} {pd pl : Nat} {st st' : St} {lg : Lg} {l P : List GS} {v : Value} {k : Nat} {x : GS} (hx : l[k]? = some x) (hP : P.length = k) (h3 : LogM w T pd pl { lg with segs := (P ++ l.drop k).map (·.s) } (P ++ l.drop k) v)
    (h4 : syncSegs lg.segs st = Tidied.after (P.map (·.s)) (syncSegs ((l.drop k).map (·.s)) st')) (hm : x.s.marked = true) (he : syncE st' x.s.name = 0) (f2 : Fr B W S pd (syncS st' x.s.name) T2 w2) (k1 : ∀ b, T b → T2 b) (k2 : ∀ b, T b → w2.heap[b]? = w.heap[b]?) :
    w2.cell? ⟨x.b, 2, none⟩ = some (.bool x.s.marked) ∧ w2.frozen? ⟨x.b, 2, none⟩ = false ∧ Syncing B W S pd pl st lg l v (k + 1) (w2.setCell ⟨x.b, 2, none⟩ (.bool false)) := by
  have hk := (List.getElem?_eq_some_iff.1 hx).1
  have hd : l.drop k = x :: l.drop (k + 1) := by rw [List.drop_eq_getElem_cons hk, (List.getElem?_eq_some_iff.1 hx).2]
  rw [hd] at h3 h4
  have h5 := (h3.kept k2).mono k1
  have hs := h5.segs.seg x (by simp)
  have hf := h5.segs.fine x (by simp)
  obtain ⟨m1, m2⟩ := hs.mark false
  obtain ⟨f6, h6⟩ := LogM.change f2 h5 (x' := ⟨x.b, x.v, { x.s with marked := false }⟩) rfl m1 ⟨hf.pos, hf.top, hf.size, hf.len⟩ (fun b hb => .inl hb) m2
  refine ⟨hs.cells.2.2.1, hs.cells.2.2.2 2, _, P ++ [⟨x.b, x.v, { x.s with marked := false }⟩], syncS st' x.s.name, by simp [hP], f6, ?_, ?_⟩
  · rw [List.append_assoc]; exact h6
  · rw [h4, List.map_cons, syncSegs_ok hm he, after_after, List.map_append]; rfl
theorem syncing_start {B : Nat} {w : World} {S T : Nat → Prop} {pd pl : Nat} {st : St} {lg : Lg} {l : List GS} {v : Value} (hf : Fr B w S pd st T w) (h : LogM w T pd pl lg l v) : Syncing B w S pd pl st lg l v 0 w := by
  have he : ({ lg with segs := l.map (·.s) } : Lg) = lg := by rw [← h.eq]
  refine ⟨T, [], st, rfl, hf, ?_, ?_⟩
  · rw [List.nil_append, List.drop_zero, he]; exact h
  · rw [h.eq]; simp [Tidied.after]
theorem syncL_eq (lg : Lg) (st : St) (t : Tidied) (h : syncSegs lg.segs st = t) : syncL lg st =
    if t.err ≠ 0 then ⟨{ lg with segs := t.segs }, t.st, t.err⟩ else if lg.nm then (if snE t.st ≠ 0 then ⟨{ lg with segs := t.segs }, snS t.st, snE t.st⟩ else ⟨{ lg with segs := t.segs, nm := false, dur := lg.last }, snS t.st, 0⟩)
    else ⟨{ lg with segs := t.segs, dur := lg.last }, t.st, 0⟩ := by unfold syncL; rw [h]

set_option maxHeartbeats 3200000 in
set_option maxRecDepth 100000 in
theorem log_sync_any (B : Nat) (S : Nat → Prop) (pd pl : Nat) (st : St) (lg : Lg) (w : World) (h : LG B w S pd pl st lg) :
    Calls Tryz.prog 13 #[.pointer (some ⟨pl, 0, none⟩)] w (Did B S pd pl (syncL lg st) w) := by
  obtain ⟨T, l, v, hf, h⟩ := h
  obtain ⟨-, c1, -, -, -, -, -⟩ := h.cells
  obtain ⟨g, c, a, rfl, ha, hl1, hl2, -⟩ := h.row.shape
  unfold maxLen at hl2
  have HA := Lib.hid ha
  have HS0 := Lib.hid (syncing_start hf h)
  -- the answers
  have HQ0 := Lib.hid (fun (t : Tidied) (ht : syncSegs lg.segs st = t) (he : t.err ≠ 0) w' (hs : LStep B S pd pl t.st { lg with segs := t.segs } w w') => (show Did B S pd pl (syncL lg st) w (.returned (.int .i64 t.err)) w' from by unfold Did; rw [syncL_eq lg st t ht, if_pos he]; exact ⟨rfl, hs⟩))
  have HQ1 := Lib.hid (fun (t : Tidied) (ht : syncSegs lg.segs st = t) (he : t.err = 0) (hn : lg.nm = true) (he2 : snE t.st ≠ 0) w' (hs : LStep B S pd pl (snS t.st) { lg with segs := t.segs } w w') => (show Did B S pd pl (syncL lg st) w (.returned (.int .i64 (snE t.st))) w' from by unfold Did; rw [syncL_eq lg st t ht, if_neg (by simp [he]), if_pos hn, if_pos he2]; exact ⟨rfl, hs⟩))
  have HQ2 := Lib.hid (fun (t : Tidied) (ht : syncSegs lg.segs st = t) (he : t.err = 0) (hn : lg.nm = true) (he2 : snE t.st = 0) w' (hs : LStep B S pd pl (snS t.st) { lg with segs := t.segs, nm := false, dur := lg.last } w w') => (show Did B S pd pl (syncL lg st) w (.returned (.int .i64 0)) w' from by unfold Did; rw [syncL_eq lg st t ht, if_neg (by simp [he]), if_pos hn, if_neg (by simp [he2])]; exact ⟨rfl, hs⟩))
  have HQ3 := Lib.hid (fun (t : Tidied) (ht : syncSegs lg.segs st = t) (he : t.err = 0) (hn : lg.nm = false) w' (hs : LStep B S pd pl t.st { lg with segs := t.segs, dur := lg.last } w w') => (show Did B S pd pl (syncL lg st) w (.returned (.int .i64 0)) w' from by unfold Did; rw [syncL_eq lg st t ht, if_neg (by simp [he]), if_neg (by simp [hn])]; exact ⟨rfl, hs⟩))
  generalize Did B S pd pl (syncL lg st) w = Q at HQ0 HQ1 HQ2 HQ3 ⊢
  have HLA := Lib.hid h.last
  clear h hf ha
  go_enter Tryz.func13, Tryz.ntmps13
  go_wp2_with fail
  go_loopw [12] (fun i wr => ∃ k : Nat, k ≤ l.length ∧ i = .int .i64 k ∧ Syncing B w S pd pl st lg l (.slice a l.length c) k wr) (fun i _ => l.length - (intOf i).toNat)
  case atStart => exact ⟨0, Nat.zero_le _, rfl, HS0.out⟩
  case round =>
    obtain ⟨k, hk, rfl, hsy⟩ := hrel
    by_cases hlt : k < l.length
    · obtain ⟨x, hx⟩ : ∃ x, l[k]? = some x := ⟨_, List.getElem?_eq_getElem hlt⟩
      have hne : l ≠ [] := by intro e; rw [e] at hlt; simp at hlt
      obtain rfl := HA.out hne
      have HSY := Lib.hid hsy
      obtain ⟨T2, P, st2, h1, f2, h2, h4⟩ := hsy
      have hxk : (P ++ l.drop k)[k]? = some x := by rw [List.getElem?_append_right (by omega), List.getElem?_drop]; rw [show k + (k - P.length) = k by omega]; exact hx
      have hxm := List.mem_of_getElem? hxk
      obtain ⟨g2, c2, a2, hv2, ha2, -, -, hc2⟩ := h2.row.shape
      have hne2 : P ++ l.drop k ≠ [] := by intro e; rw [e] at hxm; simp at hxm
      have hgg : g2 = g := by
        rw [ha2 hne2] at hv2
        simp only [Value.slice.injEq, Option.some.injEq, Addr.mk.injEq, and_true, true_and] at hv2
        exact hv2.1.symm
      subst hgg
      have hcx := (hc2 hne2).2.2 k x hxk
      unfold ptrV at hcx
      have hseg := h2.segs.seg x hxm
      have hfine := h2.segs.fine x hxm
      obtain ⟨-, -, c2m, -⟩ := hseg.cells
      clear hv2 ha2 hc2 hne2 hne
      cases hm : x.s.marked with
      | false =>
        rw [hm] at c2m
        have HS2 := Lib.hid (sync_skip HSY.out hx hm)
        clear hm hseg hfine h2 f2 h4 h1 hxk hxm hx HSY
        go_wp2_with fail
        go_roundw
        case rel => exact ⟨k + 1, by omega, by go_num, HS2.out⟩
        case measure => simp [intOf]; omega
      | true =>
        rw [hm] at c2m
        obtain ⟨d0, -, -, -, -, -, -⟩ := h2.cells
        have HN := Lib.hid (name_any x B wr.drew (hseg.kept fun _ _ => rfl) hfine (f2.env.kept (w' := wr.drew) (fun _ _ => rfl) (Nat.le_refl _)))
        have HW := Lib.hid (show ∀ w3, Below wr.drew.heap.size wr.drew w3 → Below wr.heap.size wr w3 ∧ w3.cell? ⟨pl, 0, none⟩ = some (.pointer (some ⟨pd, 0, none⟩)) from fun w3 hb => by
          have hb' : Below wr.heap.size wr w3 := chain2 (w1 := wr.drew) ⟨rfl, rfl, rfl, Nat.le_refl _, fun _ _ => rfl⟩ hb
          exact ⟨hb', (hb'.cell (p := ⟨pl, 0, none⟩) (f2.lt pl h2.tp)).trans d0⟩)
        have htop := hfine.top
        have HSN := Lib.hid (fun (T3 : Nat → Prop) (w2 : World) (f3 : Fr B w S pd st2 T3 w2) => f3.sync x.s.first htop)
        have HMK := Lib.hid (fun w2 T3 he f3 k1 k2 => sync_mark (B := B) (W := w) (S := S) (w2 := w2) (T2 := T3) hx h1 h2 h4 hm he f3 k1 k2)
        have HER := Lib.hid (show syncE st2 x.s.name ≠ 0 → syncSegs lg.segs st = ⟨(P ++ l.drop k).map (·.s), syncS st2 x.s.name, syncE st2 x.s.name⟩ from fun he => by
          have hd : l.drop k = x :: l.drop (k + 1) := by rw [List.drop_eq_getElem_cons hlt, (List.getElem?_eq_some_iff.1 hx).2]
          rw [h4, hd, List.map_cons, syncSegs_err hm he]
          unfold Tidied.after
          simp)
        have H2 := Lib.hid h2
        have F2 := Lib.hid f2
        have HMM := Lib.hid hm
        have hxn : x.s.name = nameL x.s.first := rfl
        rw [hxn] at HMK HER
        clear hm hseg hfine h2 f2 h4 h1 hxk hxm hx HSY htop hxn
        obtain ⟨E, hE⟩ : ∃ E, syncE st2 (nameL x.s.first) = E := ⟨_, rfl⟩
        obtain ⟨st3, hst3⟩ : ∃ s, syncS st2 (nameL x.s.first) = s := ⟨_, rfl⟩
        rw [hE, hst3] at HSN HMK HER
        clear hE hst3
        go_wp2_with fail
        go_cut [5] (fun y wx => y = .int .i64 E ∧ Wrote1 B w S pd st3 T2 wr wx)
        case first =>
          go_region_with (first
            | (go_at_call 33; refine HN.out.mono ?_; rintro r w3 ⟨rfl, hb2⟩; obtain ⟨hb2', d9⟩ := HW.out w3 hb2; replace hb2' := Lib.hid hb2'; clear hb2)
            | (go_at_call 35; refine (HSN.out _ w3 (F2.out.below hb2'.out)).mono ?_; rintro r w4 ⟨rfl, f4, k4, z4⟩; have HWR := Lib.hid (show Wrote1 B w S pd st3 T2 wr w4 from ⟨_, f4, fun b hb => .inl hb, fun b hb => (k4 b (.inl hb)).trans (hb2'.out.block b (F2.out.lt b hb))⟩); clear f4 k4 z4))
          all_goals (go_wp2_with fail; go_meet; exact ⟨rfl, HWR.out⟩)
        case rest =>
          obtain ⟨rfl, T', f3, k1, k2⟩ := hcut
          by_cases hE : E = 0
          · subst hE
            obtain ⟨e1, e2, hs3⟩ := HMK.out _ T' rfl f3 k1 k2
            have HS3 := Lib.hid hs3
            clear hs3 f3 k1 k2 HN HW HSN HMK HER H2 F2 HMM
            go_wp2_with fail
            go_roundw
            case rel => exact ⟨k + 1, by omega, by go_num, HS3.out⟩
            case measure => simp [intOf]; omega
          · have hne : (E != 0) = true := by simp; exact hE
            have HQ := Lib.hid (HQ0.out _ (HER.out hE) hE _ (LStep.of f3 ((H2.out.kept k2).mono k1)))
            clear f3 k1 k2 HN HW HSN HMK HER H2 F2 HMM
            go_wp2
            exact HQ.out
    · obtain rfl : k = l.length := by omega
      obtain ⟨T2, P, st2, h1, f2, h2, h4⟩ := hsy
      rw [List.drop_of_length_le (Nat.le_refl _), List.append_nil] at h2
      rw [List.drop_of_length_le (Nat.le_refl _)] at h4
      have h5 : syncSegs lg.segs st = ⟨P.map (·.s), st2, 0⟩ := by rw [h4]; simp [Tidied.after, syncSegs]
      obtain ⟨d0, -, -, d3, d4, d5, fr⟩ := h2.cells
      simp only at d3 d4 d5
      have e3 := fr 3
      have e5 := fr 5
      have HLL := Lib.hid (show lg.last ≤ 1000000000000000 from h2.last)
      cases hn : lg.nm with
      | false =>
        rw [hn] at d3
        obtain ⟨f6, h6⟩ := LogM.set f2 h2 (lg' := { lg with segs := P.map (·.s), dur := lg.last }) (x := .int .i64 (lg.last : Int)) 5 rfl h2.last h2.last (fun hh => h2.hand hh) rfl
        have HQ := Lib.hid (HQ3.out _ h5 rfl hn _ (LStep.of f6 h6))
        clear f6 h6 f2 h2 h4 h5 hn HQ0 HQ1 HQ2 HQ3 fr
        go_wp2
        exact HQ.out
      | true =>
        rw [hn] at d3
        have HSN := Lib.hid f2.syncNames
        have H2 := Lib.hid h2
        clear h2 f2 fr d5 e5
        go_wp2_with fail
        refine HSN.out.mono ?_
        rintro r w3 ⟨rfl, f3, k3, z3⟩
        have h3 := H2.out.kept k3
        obtain ⟨-, -, -, b3, b4, b5, fr⟩ := h3.cells
        simp only at b3 b4 b5
        have e3' := fr 3
        have e5' := fr 5
        by_cases hE : snE st2 = 0
        · obtain ⟨f6, h6⟩ := LogM.set f3 h3 (lg' := { lg with segs := P.map (·.s), nm := false }) (x := .bool false) 3 rfl h3.last h3.dur (fun hh => h3.hand hh) rfl
          obtain ⟨f7, h7⟩ := LogM.set f6 h6 (lg' := { lg with segs := P.map (·.s), nm := false, dur := lg.last }) (x := .int .i64 (lg.last : Int)) 5 rfl h6.last h6.last (fun hh => h6.hand hh) rfl
          have HQ := Lib.hid (HQ2.out _ h5 rfl hn hE _ (LStep.of f7 h7))
          obtain ⟨-, -, -, -, g4, g5, fr6⟩ := h6.cells
          simp only at g4 g5
          rw [hE]
          have e6 := fr6 5
          clear f6 h6 f7 h7 f3 h3 h4 h5 hn HQ0 HQ1 HQ2 HQ3 fr fr6 HSN H2 k3 z3 hE b4 b5 d3 d4
          go_wp2
          exact HQ.out
        · have hne : (snE st2 != 0) = true := by simp; exact hE
          have HQ := Lib.hid (HQ1.out _ h5 rfl hn hE _ (LStep.of f3 h3))
          simp only at HQ
          clear f3 h3 h4 h5 hn HQ0 HQ1 HQ2 HQ3 fr HSN H2 k3 z3 hE
          generalize snE st2 = E at *
          go_wp2
          exact HQ.out
end Wal
end Go.Proofs.YtlgjbdfnhaoloaaGreatDoor
end

/- DropBefore, Reset, endAt (layer 5). -/
section
set_option linter.unusedSimpArgs false
set_option linter.unusedVariables false
namespace Go.Proofs.YtlgjbdfnhaoloaaGreatDoor
open Go.RowKit Go.Sort
namespace Wal
open Dig Frm Dsk

theorem takeL_last {α : Type} (nm : α → Str) (goes : Nat → Bool) : ∀ (l : List α) (j : Nat) (st : St) (e : Int), l ≠ [] → goes (j + l.length - 1) = false → (takeL nm goes j l st e).1.getLast? = l.getLast?
  | [], _, _, _, h, _ => absurd rfl h
  | [x], j, st, e, _, hg => by
    rw [takeL_cons]
    have hs : stays goes j e = true := by unfold stays; simp at hg; simp [hg]
    have ho : tkOut goes j (nm x) st e = false := by unfold tkOut; rw [hs]; rfl
    rw [ho]
    simp [takeL]
  | x :: y :: r, j, st, e, _, hg => by
    rw [takeL_cons]
    have hg' : goes (j + 1 + (y :: r).length - 1) = false := by
      rw [← hg]; congr 1; simp; omega
    have ih := takeL_last nm goes (y :: r) (j + 1) (tkSt goes j (nm x) st e) (tkE goes j (nm x) st e) (by simp) hg'
    rw [List.getLast?_append, ih, List.getLast?_cons_cons, List.getLast?_cons]
    rfl

theorem drop_last {l : List GS} (hne : l ≠ []) (n : Int) : dropGoes (l.map (·.s)) n (0 + l.length - 1) = false := by
  unfold dropGoes
  have : 1 ≤ l.length := by cases l with | nil => exact absurd rfl hne | cons => simp
  have e : 0 + l.length - 1 + 1 = (l.map (·.s)).length := by rw [List.length_map]; omega
  have e2 : decide (0 + l.length - 1 + 1 ≠ (l.map (·.s)).length) = false := decide_eq_false (fun h => h e)
  rw [e2, Bool.false_and]
theorem handV_last {h : Bool} {l l' : List GS} (hb : l.getLast? = l'.getLast?) : handV h l = handV h l' := by unfold handV; rw [hb]

/-- Behind tidy of DropBefore. -/
theorem dropped {B : Nat} {W w w2 : World} {S T T2 : Nat → Prop} {pd pl : Nat} {st st' : St} {lg : Lg} {l K : List GS} {n e : Int} {v v' : Value} (h : LogM w T pd pl lg l v) (hne : l ≠ []) (ht : TidiedM B W S pd pl (dropGoes (l.map (·.s)) n) l st (logCells pd lg l v) T2 w2 K st' e v' T) (hp : T2 pl) :
    LogM w2 T pd pl { lg with segs := K.map (·.s) } K v' ∧ dropL lg st n = ⟨{ lg with segs := K.map (·.s) }, st', e⟩ := by
  have hlast : K.getLast? = l.getLast? := by rw [ht.kept]; exact takeL_last _ _ l 0 st 0 hne (drop_last hne n)
  refine ⟨{ cell := ?_, row := ht.row, segs := ht.segs, eq := rfl, tp := ht.sub pl hp, last := h.last, dur := h.dur, hand := fun _ => ?_ }, ?_⟩
  · rw [ht.cell]
    unfold logCells
    rw [handV_last hlast]
    rfl
  · intro hk
    rw [hk] at hlast
    obtain ⟨x, hx, _⟩ := last_elem hne
    rw [hx] at hlast
    cases hlast
  · unfold dropL
    rw [h.eq, if_neg (by simpa using hne), ht.eq]

set_option maxHeartbeats 1600000 in
set_option maxRecDepth 100000 in
theorem drop_none (B : Nat) (S : Nat → Prop) (pd pl : Nat) (st : St) (lg : Lg) (n : Int) (T : Nat → Prop) (v : Value) (w : World) (hf : Fr B w S pd st T w) (h : LogM w T pd pl lg [] v) :
    Calls Tryz.prog 19 #[.pointer (some ⟨pl, 0, none⟩), .int .i64 n] w (Did B S pd pl (dropL lg st n) w) := by
  have e : dropL lg st n = ⟨lg, st, 0⟩ := by unfold dropL; rw [h.eq]; rfl
  unfold Did
  rw [e]
  obtain ⟨-, c1, -, -, -, -, -⟩ := h.cells
  obtain ⟨g, c, a, rfl, -⟩ := h.row.shape
  have c1a := fun (o : Obj) => (World.cell?_alloc_lt w o ⟨pl, 1, none⟩ (hf.lt pl h.tp)).trans c1
  have HST := Lib.hid (fun w' (hb : Below w.heap.size w w') => LStep.same hf h hb)
  clear h hf e
  go_enter Tryz.func19, Tryz.ntmps19
  go_wp2
  go_ret
  exact ⟨rfl, HST.out _ ((Below.refl _ _).alloc (Nat.le_refl _) _)⟩

set_option maxHeartbeats 3200000 in
set_option maxRecDepth 100000 in
theorem drop_some (B : Nat) (S : Nat → Prop) (pd pl : Nat) (st : St) (hC : st.C.length ≤ 900000000) (lg : Lg) (hsl : lg.segs.length ≤ 1000000) (n : Int) (hn : -9223372036854775808 ≤ n ∧ n ≤ 9223372036854775807) (T : Nat → Prop) (l : List GS) (hne : l ≠ []) (v : Value) (w : World) (hf : Fr B w S pd st T w) (h : LogM w T pd pl lg l v) :
    Calls Tryz.prog 19 #[.pointer (some ⟨pl, 0, none⟩), .int .i64 n] w (Did B S pd pl (dropL lg st n) w) := by
  obtain ⟨-, c1, -, -, -, -, -⟩ := h.cells
  obtain ⟨g, c, a, rfl, -, hl1, hl2, -⟩ := h.row.shape
  obtain ⟨t, ht, -, -⟩ := last_elem hne
  have hll : l.length ≤ 1000000 := by rw [h.eq, List.length_map] at hsl; exact hsl
  have hlen0 : ((l.length : Int) == 0) = false := by cases l with | nil => exact absurd rfl hne | cons => simp; omega
  -- the number's box
  obtain ⟨w1, hw1⟩ : ∃ x, x = w.alloc (.cells #[.int .i64 n] 3 (0, 0)) := ⟨_, rfl⟩
  have hu1 : Upon T w w1 := by rw [hw1]; exact (Upon.refl _ w).alloc _
  have hz1 : w1.heap.size = w.heap.size + 1 := by rw [hw1]; simp
  have f1 := hf.own hu1
  have h1 : LogM w1 (more T w w1) pd pl lg l (.slice a l.length c) := (h.kept fun b hb => by rw [hw1]; exact Below.heap_alloc _ _ b (hf.lt b hb)).mono fun b hb => .inl hb
  have hbn : w1.heap[w.heap.size]? = some (.cells #[.int .i64 n] 3 (0, 0)) := by rw [hw1]; exact cell_new w _
  have HTL := Lib.hid (tail_is _ pd pl lg l _ w1 h1 t ht)
  have c1a : w1.cell? ⟨pl, 1, none⟩ = some (.slice a l.length c) := h1.cells.2.1
  -- the last segment's box
  have HTD := Lib.hid (show ∀ m, Calls Tryz.prog 25 #[.pointer (some ⟨pl, 0, none⟩), .func (.func 49) #[] #[.pointer (some ⟨w.heap.size + 1, 0, none⟩), .pointer (some ⟨w.heap.size, 0, none⟩)]] ((w1.drewN m).alloc (.cells #[.pointer (some ⟨t.b, 0, none⟩)] 54 (0, 0)))
      (fun r w' => ∃ K st' e v' T', r = .returned (.int .i64 e) ∧ dropL lg st n = ⟨{ lg with segs := K.map (·.s) }, st', e⟩ ∧ Fr B w S pd st' T' w' ∧ LogM w' T' pd pl { lg with segs := K.map (·.s) } K v') from fun m => by
    obtain ⟨w3, hw3⟩ : ∃ x, x = (w1.drewN m).alloc (.cells #[.pointer (some ⟨t.b, 0, none⟩)] 54 (0, 0)) := ⟨_, rfl⟩
    rw [← hw3]
    have hu3 : Upon (more T w w1) w1 w3 := by rw [hw3]; exact (show Upon _ w1 (w1.drewN m) from ⟨rfl, rfl, rfl, Nat.le_refl _, fun _ _ _ => rfl⟩).alloc _
    have hk3 : ∀ b, b < w1.heap.size → w3.heap[b]? = w1.heap[b]? := fun b hb => by rw [hw3]; exact Below.heap_alloc (w1.drewN m) _ b hb
    have hz3 : w3.heap.size = w1.heap.size + 1 := by rw [hw3]; simp
    have f3 := f1.own hu3
    have h3 : LogM w3 (more (more T w w1) w1 w3) pd pl lg l (.slice a l.length c) := (h1.kept fun b hb => hk3 b (f1.lt b hb)).mono fun b hb => .inl hb
    have hbt : w3.heap[w.heap.size + 1]? = some (.cells #[.pointer (some ⟨t.b, 0, none⟩)] 54 (0, 0)) := by
      have := cell_new (w1.drewN m) (.cells #[.pointer (some ⟨t.b, 0, none⟩)] 54 (0, 0))
      rw [show (w1.drewN m).heap.size = w.heap.size + 1 from hz1] at this
      rw [hw3]; exact this
    have hlt : ∀ b, T b → b < w.heap.size := hf.lt
    have hTb : ∀ b, b = w.heap.size + 1 ∨ b = w.heap.size → ¬ T b := fun b hb ht => by have := hlt b ht; omega
    refine (tidy_any B w S (more (more T w w1) w1 w3) _ _ _ l _ (fun b => b = w.heap.size + 1 ∨ b = w.heap.size) (logCells pd lg l (.slice a l.length c)) pd pl st _ w3 f3 (goes_drop l t ht (w.heap.size + 1) w.heap.size n hn) ⟨hbt, (hk3 _ (by omega)).trans hbn⟩ h3.segs h3.row h3.cell rfl rfl h3.tp ?_ ?_ ?_ ?_ (by omega)).mono ?_
    · rintro b (rfl | rfl)
      · exact .inr ⟨by omega, by omega⟩
      · exact .inl (.inr ⟨Nat.le_refl _, by omega⟩)
    · exact fun hb => hTb pl hb h.tp
    · exact fun x hx b hb hb' => hTb b hb' (h.segs.inT x hx b hb)
    · exact fun b hb hb' => hTb b hb' (h.row.inT b hb)
    · rintro r w4 ⟨K, st', e, v', T', rfl, htd⟩
      have h3' : LogM w3 T' pd pl lg l (.slice a l.length c) := h3.mono htd.sub
      obtain ⟨h4, he⟩ := dropped h3' hne htd h3.tp
      exact ⟨K, st', e, v', T', rfl, he, htd.fr, h4⟩)
  have hHZ := Lib.hid hz1
  rw [hw1] at HTL HTD c1a hHZ
  clear f1 h1 hu1 hw1 hz1 hbn h hf c1 ht hne hsl hC
  go_enter Tryz.func19, Tryz.ntmps19
  go_wp2_with fail
  refine HTL.out.mono ?_
  rintro r w2 ⟨rfl, m, rfl⟩
  have HTD2 := Lib.hid (HTD.out m)
  clear HTD HTL
  go_wp2_with fail
  refine HTD2.out.mono ?_
  rintro r w4 ⟨K, st', e, v', T', rfl, he, f4, h4⟩
  have HR := Lib.hid (show Did B S pd pl (dropL lg st n) w (.returned (.int .i64 e)) w4 from by unfold Did; rw [he]; exact ⟨rfl, LStep.of f4 h4⟩)
  clear he f4 h4 HTD2
  go_wp2
  go_ret
  exact HR.out
theorem log_drop_any (B : Nat) (S : Nat → Prop) (pd pl : Nat) (st : St) (hC : st.C.length ≤ 900000000) (lg : Lg) (hsl : lg.segs.length ≤ 1000000) (n : Int) (hn : -9223372036854775808 ≤ n ∧ n ≤ 9223372036854775807) (w : World) (h : LG B w S pd pl st lg) :
    Calls Tryz.prog 19 #[.pointer (some ⟨pl, 0, none⟩), .int .i64 n] w (Did B S pd pl (dropL lg st n) w) := by
  obtain ⟨T, l, v, hf, h⟩ := h
  cases l with
  | nil => exact drop_none B S pd pl st lg n T v w hf h
  | cons x r => exact drop_some B S pd pl st hC lg hsl n hn T (x :: r) (by simp) v w hf h
end Wal
end Go.Proofs.YtlgjbdfnhaoloaaGreatDoor
end

/- endAt and Reset (layer 5). -/
section
set_option linter.unusedSimpArgs false
set_option linter.unusedVariables false
namespace Go.Proofs.YtlgjbdfnhaoloaaGreatDoor
open Go.RowKit Go.Sort
namespace Wal
open Dig Frm Dsk

set_option maxHeartbeats 1600000 in
set_option maxRecDepth 100000 in
theorem endAt_any (B : Nat) (W : World) (S T : Nat → Prop) (pd pl : Nat) (st : St) (lg : Lg) (l : List GS) (v : Value) (n : Nat) (hn : n ≤ 1000000000000000) (w : World) (hf : Fr B W S pd st T w) (h : LogM w T pd pl lg l v) :
    Calls Tryz.prog 48 #[.pointer (some ⟨pl, 0, none⟩), .int .i64 (n : Int)] w fun r w' => r = .returned (.int .i64 (endL lg st n).err) ∧ Stay B W S pd pl (endL lg st n).st (endL lg st n).lg l v w' := by
  obtain ⟨d0, -, -, -, -, -, -⟩ := h.cells
  have HSN := Lib.hid hf.syncNames
  have H := Lib.hid h
  by_cases hE : snE st = 0
  · have e : endL lg st n = ⟨{ lg with nm := false, last := n, dur := n }, snS st, 0⟩ := by unfold endL; rw [if_neg (by simp [hE])]
    rw [e]
    rw [hE] at HSN
    clear h hf e hE
    go_enter Tryz.func48, Tryz.ntmps48
    go_wp2_with fail
    refine HSN.out.mono ?_
    rintro r w1 ⟨rfl, f1, k1, -⟩
    have h1 := H.out.kept k1
    obtain ⟨-, -, -, b3, b4, b5, fr⟩ := h1.cells
    have e3 := fr 3
    have e4 := fr 4
    have e5 := fr 5
    obtain ⟨f2, h2⟩ := LogM.set f1 h1 (lg' := { lg with nm := false }) (x := .bool false) 3 rfl h1.last h1.dur (fun hh => h1.hand hh) rfl
    obtain ⟨f3, h3⟩ := LogM.set f2 h2 (lg' := { lg with nm := false, last := n }) (x := .int .i64 (n : Int)) 4 rfl hn h2.dur (fun hh => h2.hand hh) rfl
    obtain ⟨f4, h4⟩ := LogM.set f3 h3 (lg' := { lg with nm := false, last := n, dur := n }) (x := .int .i64 (n : Int)) 5 rfl hn hn (fun hh => h3.hand hh) rfl
    have HR := Lib.hid (show Stay B W S pd pl (snS st) { lg with nm := false, last := n, dur := n } l v _ from ⟨T, f4, h4⟩)
    obtain ⟨-, -, -, -, g4, -, -⟩ := h2.cells
    obtain ⟨-, -, -, -, -, g5, -⟩ := h3.cells
    simp only at g4 g5
    clear f1 h1 f2 h2 f3 h3 f4 h4 fr k1 HSN H
    go_wp2
    go_ret
    exact ⟨rfl, HR.out⟩
  · have e : endL lg st n = ⟨lg, snS st, snE st⟩ := by unfold endL; rw [if_pos hE]
    rw [e]
    have hne : (snE st != 0) = true := by simp; exact hE
    clear h hf e hE
    simp only
    generalize snE st = E at *
    go_enter Tryz.func48, Tryz.ntmps48
    go_wp2_with fail
    refine HSN.out.mono ?_
    rintro r w1 ⟨rfl, f1, k1, -⟩
    have HR := Lib.hid (show Stay B W S pd pl (snS st) lg l v w1 from ⟨T, f1, H.out.kept k1⟩)
    clear f1 k1 HSN H
    go_wp2
    go_ret
    exact ⟨rfl, HR.out⟩

theorem takeL_segs (goes : Nat → Bool) (l : List GS) (st : St) {K : List GS} {st' : St} {e : Int} (h : takeL nmG goes 0 l st 0 = (K, st', e)) : takeL Seg.name goes 0 (l.map (·.s)) st 0 = (K.map (·.s), st', e) := by
  have hm := takeL_map (fun x : GS => x.s) Seg.name goes l 0 st 0
  have e1 : takeL (fun x : GS => x.s.name) goes 0 l st 0 = (K, st', e) := h
  rw [e1] at hm
  exact hm
/-- Behind takeOut of a log that has nothing in hand. -/
theorem taken_log {B : Nat} {W w2 : World} {S T T2 : Nat → Prop} {pd pl : Nat} {st st' : St} {lg : Lg} {l K : List GS} {goes : Nat → Bool} {e : Int} {v v' : Value} (hh : lg.hand = false) (hl : lg.last ≤ 1000000000000000) (hd : lg.dur ≤ 1000000000000000) (ht : Taken B W S pd pl goes l st (logCells pd lg l v) T2 w2 K st' e v' T) (hp : T2 pl) :
    LogM w2 T pd pl { lg with segs := K.map (·.s) } K v' := by
  refine { cell := ?_, row := ht.row, segs := ht.segs, eq := rfl, tp := ht.sub pl hp, last := hl, dur := hd, hand := fun h => by rw [hh] at h; cases h }
  rw [ht.cell]
  unfold logCells handV
  rw [hh]
  rfl

set_option maxHeartbeats 800000 in
set_option maxRecDepth 100000 in
theorem reset_range (B : Nat) (S : Nat → Prop) (pd pl : Nat) (st : St) (lg : Lg) (n : Int) (hn : -9223372036854775808 ≤ n ∧ n ≤ 9223372036854775807) (hr : n < 0 ∨ 99999998 < n) (w : World) (h : LG B w S pd pl st lg) :
    Calls Tryz.prog 21 #[.pointer (some ⟨pl, 0, none⟩), .int .i64 n] w (Did B S pd pl (resetL lg st n) w) := by
  have e : resetL lg st n = ⟨lg, st, 2⟩ := by unfold resetL; rw [if_pos hr]
  unfold Did
  rw [e]
  obtain ⟨T, l, v, hf, h⟩ := h
  have H := Lib.hid (LStep.same hf h (Below.refl _ w))
  clear hf h e
  rcases hr with h1 | h1
  · go_enter Tryz.func21, Tryz.ntmps21
    go_wp2
    go_ret
    exact ⟨rfl, H.out⟩
  · have h0 : ¬ n < 0 := by omega
    go_enter Tryz.func21, Tryz.ntmps21
    go_wp2
    go_ret
    exact ⟨rfl, H.out⟩

set_option maxHeartbeats 3200000 in
set_option maxRecDepth 100000 in
theorem reset_ok (B : Nat) (S : Nat → Prop) (pd pl : Nat) (st : St) (hC : st.C.length ≤ 900000000) (lg : Lg) (hsl : lg.segs.length ≤ 1000000) (n : Nat) (hn : n ≤ 99999998) (w : World) (h : LG B w S pd pl st lg) :
    Calls Tryz.prog 21 #[.pointer (some ⟨pl, 0, none⟩), .int .i64 (n : Int)] w (Did B S pd pl (resetL lg st (n : Int)) w) := by
  obtain ⟨T, l, v, hf, h⟩ := h
  have hll : l.length ≤ 1000000 := by rw [h.eq, List.length_map] at hsl; exact hsl
  obtain ⟨-, -, d2, -, -, -, fr⟩ := h.cells
  have e2 := fr 2
  obtain ⟨f1, h1⟩ := LogM.set hf h (lg' := { lg with hand := false }) (x := .pointer none) 2 rfl h.last h.dur (fun hh => by cases hh) rfl
  have HT := Lib.hid (takeOut_any B w S T _ _ _ l _ (fun _ => False) (logCells pd { lg with hand := false } l v) pd pl st v _ f1 (goes_all l) trivial h1.segs h1.row h1.cell rfl rfl h1.tp (fun _ h => h.elim) (fun h => h) (fun _ _ _ _ h => h) (fun _ _ h => h) (by omega))
  have HP := Lib.hid h1.tp
  have HLA := Lib.hid h.last
  have HDU := Lib.hid h.dur
  have hres : resetL lg st (n : Int) = if (takeL Seg.name (fun _ => true) 0 lg.segs st 0).2.2 ≠ 0 then ⟨{ lg with hand := false, segs := (takeL Seg.name (fun _ => true) 0 lg.segs st 0).1 }, (takeL Seg.name (fun _ => true) 0 lg.segs st 0).2.1, (takeL Seg.name (fun _ => true) 0 lg.segs st 0).2.2⟩ else endL { lg with hand := false, segs := (takeL Seg.name (fun _ => true) 0 lg.segs st 0).1 } (takeL Seg.name (fun _ => true) 0 lg.segs st 0).2.1 n := by
    unfold resetL
    rw [if_neg (by omega)]
    simp only [Int.toNat_natCast]
  rw [h.eq] at hres
  have HRES := Lib.hid hres
  obtain ⟨hx, hhx⟩ : ∃ x, handV lg.hand l = x := ⟨_, rfl⟩
  rw [hhx] at d2
  have hlt : ¬ (99999998 : Int) < (n : Int) := by omega
  clear f1 h1 h hf fr hres hhx hll hsl hC
  go_enter Tryz.func21, Tryz.ntmps21
  go_wp2_with fail
  refine HT.out.mono ?_
  rintro r w1 ⟨K, st', e, v', T', rfl, ht⟩
  have h1 := taken_log (lg := { lg with hand := false }) rfl HLA.out HDU.out ht HP.out
  have hs := takeL_segs (fun _ => true) l st ht.eq
  have hres := HRES.out
  rw [hs] at hres
  simp only at hres
  have f1 := ht.fr
  by_cases he : e = 0
  · subst he
    rw [if_neg (by simp)] at hres
    have HEN := Lib.hid (endAt_any B w S T' pd pl st' _ K v' n (by omega) w1 f1 h1)
    have HQ := Lib.hid (show ∀ r w', (r = .returned (.int .i64 (endL { lg with hand := false, segs := K.map (·.s) } st' n).err) ∧ Stay B w S pd pl (endL { lg with hand := false, segs := K.map (·.s) } st' n).st (endL { lg with hand := false, segs := K.map (·.s) } st' n).lg K v' w') → Did B S pd pl (resetL lg st (n : Int)) w r w' from fun r w' ⟨h1, T4, f4, h4⟩ => by unfold Did; rw [hres]; exact ⟨h1, LStep.of f4 h4⟩)
    generalize endL { lg with hand := false, segs := K.map (·.s) } st' n = D at HEN HQ
    clear f1 h1 ht hs hres HT HRES
    go_wp2_with fail
    refine HEN.out.mono ?_
    rintro r w2 ⟨rfl, hst⟩
    have HQ2 := Lib.hid (HQ.out _ w2 ⟨rfl, hst⟩)
    clear hst HEN HQ
    go_wp2
    go_ret
    exact HQ2.out
  · have hne : (e != 0) = true := by simp; exact he
    rw [if_pos he] at hres
    have HQ := Lib.hid (show Did B S pd pl (resetL lg st (n : Int)) w (.returned (.int .i64 e)) w1 from by unfold Did; rw [hres]; exact ⟨rfl, LStep.of f1 h1⟩)
    clear f1 h1 ht hs hres HT HRES he
    go_wp2
    go_ret
    exact HQ.out
theorem log_reset_any (B : Nat) (S : Nat → Prop) (pd pl : Nat) (st : St) (hC : st.C.length ≤ 900000000) (lg : Lg) (hsl : lg.segs.length ≤ 1000000) (n : Int) (hn : -9223372036854775808 ≤ n ∧ n ≤ 9223372036854775807) (w : World) (h : LG B w S pd pl st lg) :
    Calls Tryz.prog 21 #[.pointer (some ⟨pl, 0, none⟩), .int .i64 n] w (Did B S pd pl (resetL lg st n) w) := by
  by_cases hr : n < 0 ∨ 99999998 < n
  · exact reset_range B S pd pl st lg n hn hr w h
  · obtain ⟨m, rfl⟩ := Int.eq_ofNat_of_zero_le (show 0 ≤ n by omega)
    exact reset_ok B S pd pl st hC lg hsl m (by omega) w h
end Wal
end Go.Proofs.YtlgjbdfnhaoloaaGreatDoor
end
