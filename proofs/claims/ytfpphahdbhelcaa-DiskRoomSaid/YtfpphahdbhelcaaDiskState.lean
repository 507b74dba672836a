/- A disk in memory (layer 4) as plain data: which blocks it owns, what they hold; it stays what it is while other blocks are written; what a step of it leaves. -/
import Derived.Test.YtfpphahdbhelcaaDiskFile
namespace Go.Proofs.Ytfpphahdbhelcaa
open Go.RowKit
namespace Dsk
open Go.Maps

/-! ### the files -/
structure FilesAt (w : World) (S : Nat → Prop) (F : List FileS) (fs : List Nat) (rows : List (Option Nat)) : Prop where
  flen : fs.length = F.length
  rlen : rows.length = F.length
  file : ∀ i f, F[i]? = some f → FileAt w (blk fs i) (rows.getD i none) f.s f.lasts
  nodup : ∀ i j, i < F.length → j < F.length → blk fs i = blk fs j → i = j
  apart : ∀ i j b, rows.getD i none = some b → rows.getD j none = some b → i = j
  s_f : ∀ i, i < F.length → S (blk fs i)
  s_r : ∀ i b, rows.getD i none = some b → S b

theorem getD_none {rows : List (Option Nat)} {i b : Nat} (h : rows.getD i none = some b) : i < rows.length := by
  rcases Nat.lt_or_ge i rows.length with h1 | h1
  · exact h1
  · rw [List.getD_eq_getElem?_getD, List.getElem?_eq_none h1] at h; cases h

theorem FilesAt.kept {w w' : World} {S : Nat → Prop} {F : List FileS} {fs : List Nat} {rows : List (Option Nat)} (h : FilesAt w S F fs rows) (hk : ∀ b, S b → w'.heap[b]? = w.heap[b]?) : FilesAt w' S F fs rows :=
  { h with file := fun i f hf => (h.file i f hf).kept (hk _ (h.s_f i (by have := (List.getElem?_eq_some_iff.1 hf).1; exact this))) (fun g hg => hk g (h.s_r i g hg)) }
theorem FilesAt.mono {w : World} {S T : Nat → Prop} {F : List FileS} {fs : List Nat} {rows : List (Option Nat)} (h : FilesAt w S F fs rows) (hS : ∀ b, S b → T b) : FilesAt w T F fs rows :=
  { h with s_f := fun i hi => hS _ (h.s_f i hi), s_r := fun i b hb => hS _ (h.s_r i b hb) }

/-- The blocks of S, and all that were made between w and w'. -/
def more (S : Nat → Prop) (w w' : World) (b : Nat) : Prop := S b ∨ (w.heap.size ≤ b ∧ b < w'.heap.size)

theorem FilesAt.row_lt {w : World} {S : Nat → Prop} {F : List FileS} {fs : List Nat} {rows : List (Option Nat)} (h : FilesAt w S F fs rows) {i b : Nat} (hb : rows.getD i none = some b) : b < w.heap.size := by
  have hi := getD_none hb
  rw [h.rlen] at hi
  exact (h.file i _ (List.getElem?_eq_getElem hi)).row b hb

/-- Behind a write to file i. -/
theorem FilesAt.wrote {w w' : World} {S : Nat → Prop} {F : List FileS} {fs : List Nat} {rows : List (Option Nat)} (h : FilesAt w S F fs rows) {i : Nat} {f : FileS} (hi : F[i]? = some f) {l : Str} {n : Nat}
    (hw : Wrote (blk fs i) (rows.getD i none) l n w w') {g : FileS → FileS} (hg : g f = ⟨l, n⟩) : ∃ rows', FilesAt w' (more S w w') (F.modify i g) fs rows' := by
  have hil := (List.getElem?_eq_some_iff.1 hi).1
  obtain ⟨⟨r', hf', hr'⟩, hu⟩ := hw
  have hrl : ∀ j, (rows.set i r').getD j none = if j = i then r' else rows.getD j none := by
    intro j
    simp only [List.getD_eq_getElem?_getD, List.getElem?_set]
    by_cases e : i = j
    · subst e; simp [h.rlen, hil]
    · rw [if_neg e, if_neg (fun e' => e e'.symm)]
  have hold : ∀ j b, j ≠ i → rows.getD j none = some b → r' ≠ some b := by
    intro j b hj hb e
    rcases hr' with h1 | h1 | ⟨g', h1, h2⟩
    · rw [h1] at e; exact hj (h.apart j i b hb e)
    · rw [h1] at e; cases e
    · rw [h1] at e; cases e; have := h.row_lt hb; omega
  refine ⟨rows.set i r', ⟨by simpa using h.flen, by simpa using h.rlen, ?_, fun a b ha hb => h.nodup a b (by simpa using ha) (by simpa using hb), ?_, fun a ha => .inl (h.s_f a (by simpa using ha)), ?_⟩⟩
  · intro j fj hj
    rw [List.getElem?_modify] at hj
    rw [hrl j]
    by_cases e : j = i
    · subst e
      rw [hi] at hj
      simp at hj
      rw [if_pos rfl, ← hj, hg]
      exact hf'
    · rw [if_neg e]
      have e' : ¬ i = j := fun x => e x.symm
      obtain ⟨fj', hfj, hfe⟩ := Option.map_eq_some_iff.1 (show (F[j]?).map _ = some fj from hj)
      rw [if_neg e'] at hfe
      rw [← hfe]
      have hjl := (List.getElem?_eq_some_iff.1 hfj).1
      have hfile := h.file j fj' hfj
      refine hfile.kept (hu.block _ hfile.lt ?_) (fun b hb => hu.block _ (hfile.row b hb) ?_)
      · rintro (e1 | e1)
        · exact e (h.nodup j i hjl hil e1)
        · have hfi := h.file i f hi
          obtain ⟨p, v, _, hbk, _⟩ := hfile
          obtain ⟨_, _, _, _, hv⟩ := hfi
          obtain ⟨c, fz, hc⟩ := hv.type _ e1.symm
          rw [hbk] at hc; simp at hc
      · rintro (e1 | e1)
        · obtain ⟨_, _, _, _, hv⟩ := hfile
          obtain ⟨c, fz, hc⟩ := hv.type _ hb
          obtain ⟨p, v, _, hbk, _⟩ := h.file i f hi
          rw [← e1, hc] at hbk; simp at hbk
        · exact e (h.apart j i b hb e1.symm)
  · intro a b x ha hb
    rw [hrl a] at ha
    rw [hrl b] at hb
    by_cases ea : a = i
    · by_cases eb : b = i
      · rw [ea, eb]
      · rw [if_pos ea] at ha; rw [if_neg eb] at hb
        exact absurd ha (hold b x eb hb)
    · rw [if_neg ea] at ha
      by_cases eb : b = i
      · rw [if_pos eb] at hb; exact absurd hb (hold a x ea ha)
      · rw [if_neg eb] at hb; exact h.apart a b x ha hb
  · intro a b ha
    rw [hrl a] at ha
    by_cases ea : a = i
    · rw [if_pos ea] at ha
      rcases hr' with h1 | h1 | ⟨g', h1, h2⟩
      · rw [h1] at ha; exact .inl (h.s_r i b ha)
      · rw [h1] at ha; cases ha
      · have hb := hf'.row b ha
        rw [h1] at ha; cases ha
        exact .inr ⟨h2, hb⟩
    · rw [if_neg ea] at ha; exact .inl (h.s_r a b ha)

theorem getD_snoc_lt {α : Type} {l : List α} {x d : α} {i : Nat} (h : i < l.length) : (l ++ [x]).getD i d = l.getD i d := by
  simp [List.getD_eq_getElem?_getD, List.getElem?_append_left h]
theorem getD_snoc_eq {α : Type} {l : List α} {x d : α} : (l ++ [x]).getD l.length d = x := by
  simp [List.getD_eq_getElem?_getD]

theorem blk_snoc_lt {l : List Nat} {x i : Nat} (h : i < l.length) : blk (l ++ [x]) i = blk l i := getD_snoc_lt h
theorem blk_snoc_eq {l : List Nat} {x : Nat} : blk (l ++ [x]) l.length = x := getD_snoc_eq

/-- A new file in a new block. -/
theorem FilesAt.snoc {w w' : World} {S : Nat → Prop} {F : List FileS} {fs : List Nat} {rows : List (Option Nat)} (h : FilesAt w S F fs rows) {b : Nat} (hb : FileAt w' b none [] 0) (hn : w.heap.size ≤ b)
    (hk : ∀ c, S c → w'.heap[c]? = w.heap[c]?) : FilesAt w' (more S w w') (F ++ [⟨[], 0⟩]) (fs ++ [b]) (rows ++ [none]) := by
  have h0 := h.kept hk
  have hne : ∀ i, i < F.length → blk fs i ≠ b := by
    intro i hi e
    have := (h.file i _ (List.getElem?_eq_getElem hi)).lt
    omega
  have hrow : ∀ i c, (rows ++ [none]).getD i none = some c → rows.getD i none = some c := by
    intro i c hc
    rcases Nat.lt_or_ge i rows.length with h1 | h1
    · rwa [getD_snoc_lt h1] at hc
    · rw [List.getD_eq_getElem?_getD, List.getElem?_append_right h1] at hc
      cases e : i - rows.length with
      | zero => rw [e] at hc; simp at hc
      | succ m => rw [e] at hc; simp at hc
  refine ⟨by simp [h.flen], by simp [h.rlen], ?_, ?_, fun i j c hi hj => h.apart i j c (hrow i c hi) (hrow j c hj), ?_, fun i c hc => .inl (h.s_r i c (hrow i c hc))⟩
  · intro i f hf
    rcases Nat.lt_or_ge i F.length with h1 | h1
    · rw [List.getElem?_append_left h1] at hf
      rw [blk_snoc_lt (by rw [h.flen]; exact h1), getD_snoc_lt (by rw [h.rlen]; exact h1)]
      exact h0.file i f hf
    · have hi := (List.getElem?_eq_some_iff.1 hf).1
      simp at hi
      obtain rfl : i = F.length := by omega
      rw [List.getElem?_concat_length] at hf
      cases hf
      rw [← h.flen, blk_snoc_eq, h.flen, ← h.rlen, getD_snoc_eq]
      exact hb
  · intro i j hi hj e
    simp at hi hj
    rcases Nat.lt_or_ge i F.length with h1 | h1
    · rw [blk_snoc_lt (by rw [h.flen]; exact h1)] at e
      rcases Nat.lt_or_ge j F.length with h2 | h2
      · rw [blk_snoc_lt (by rw [h.flen]; exact h2)] at e
        exact h.nodup i j h1 h2 e
      · obtain rfl : j = F.length := by omega
        rw [← h.flen, blk_snoc_eq] at e
        exact absurd e (hne i h1)
    · obtain rfl : i = F.length := by omega
      rcases Nat.lt_or_ge j F.length with h2 | h2
      · have e3 : blk (fs ++ [b]) F.length = b := by rw [← h.flen, blk_snoc_eq]
        rw [blk_snoc_lt (i := j) (by rw [h.flen]; exact h2), e3] at e
        exact absurd e.symm (hne j h2)
      · omega
  · intro i hi
    simp at hi
    rcases Nat.lt_or_ge i F.length with h1 | h1
    · rw [blk_snoc_lt (by rw [h.flen]; exact h1)]; exact .inl (h.s_f i h1)
    · obtain rfl : i = F.length := by omega
      rw [← h.flen, blk_snoc_eq]
      exact .inr ⟨hn, hb.lt⟩

/-! ### changes of names -/
/-- A box that holds one value. -/
def Box (w : World) (S : Nat → Prop) (b : Nat) (v : Value) (T : TypeId) : Prop := S b ∧ w.heap[b]? = some (.cells #[v] T (0, 0))

/-- A function value that does the change c. -/
def ChAt (w : World) (S : Nat → Prop) (fs : List Nat) : Chg → Value → Prop
  | .put k i, v => ∃ bf bk s, v = .func (.func 42) #[] #[.pointer (some ⟨bf, 0, none⟩), .pointer (some ⟨bk, 0, none⟩)] ∧ Box w S bf (.pointer (some ⟨blk fs i, 0, none⟩)) 61 ∧ Box w S bk (.string s) 9 ∧ s.data.toList = k
  | .move a b _, v => ∃ ba bb s t, v = .func (.func 48) #[] #[.pointer (some ⟨ba, 0, none⟩), .pointer (some ⟨bb, 0, none⟩)] ∧ Box w S ba (.string s) 9 ∧ Box w S bb (.string t) 9 ∧ s.data.toList = a ∧ t.data.toList = b
  | .del a, v => ∃ ba s, v = .func (.func 52) #[] #[.pointer (some ⟨ba, 0, none⟩)] ∧ Box w S ba (.string s) 9 ∧ s.data.toList = a

theorem Box.kept {w w' : World} {S : Nat → Prop} {b : Nat} {v : Value} {T : TypeId} (h : Box w S b v T) (hk : ∀ b, S b → w'.heap[b]? = w.heap[b]?) : Box w' S b v T := ⟨h.1, (hk b h.1).trans h.2⟩
theorem Box.mono {w : World} {S T : Nat → Prop} {b : Nat} {v : Value} {t : TypeId} (h : Box w S b v t) (hk : ∀ b, S b → T b) : Box w T b v t := ⟨hk b h.1, h.2⟩
/-- .. only boxes of pointers and texts matter. -/
theorem ChAt.keptB {w w' : World} {S : Nat → Prop} {fs : List Nat} {c : Chg} {v : Value} (h : ChAt w S fs c v) (hk : ∀ b x T, (T = 61 ∨ T = 9) → Box w S b x T → w'.heap[b]? = w.heap[b]?) : ChAt w' S fs c v := by
  cases c with
  | put k i => obtain ⟨bf, bk, s, e, h1, h2, h3⟩ := h; exact ⟨bf, bk, s, e, ⟨h1.1, (hk _ _ _ (.inl rfl) h1).trans h1.2⟩, ⟨h2.1, (hk _ _ _ (.inr rfl) h2).trans h2.2⟩, h3⟩
  | move a b i => obtain ⟨ba, bb, s, t, e, h1, h2, h3⟩ := h; exact ⟨ba, bb, s, t, e, ⟨h1.1, (hk _ _ _ (.inr rfl) h1).trans h1.2⟩, ⟨h2.1, (hk _ _ _ (.inr rfl) h2).trans h2.2⟩, h3⟩
  | del a => obtain ⟨ba, s, e, h1, h2⟩ := h; exact ⟨ba, s, e, ⟨h1.1, (hk _ _ _ (.inr rfl) h1).trans h1.2⟩, h2⟩
theorem ChAt.mono {w : World} {S T : Nat → Prop} {fs : List Nat} {c : Chg} {v : Value} (h : ChAt w S fs c v) (hk : ∀ b, S b → T b) : ChAt w T fs c v := by
  cases c with
  | put k i => obtain ⟨bf, bk, s, e, h1, h2, h3⟩ := h; exact ⟨bf, bk, s, e, h1.mono hk, h2.mono hk, h3⟩
  | move a b i => obtain ⟨ba, bb, s, t, e, h1, h2, h3⟩ := h; exact ⟨ba, bb, s, t, e, h1.mono hk, h2.mono hk, h3⟩
  | del a => obtain ⟨ba, s, e, h1, h2⟩ := h; exact ⟨ba, s, e, h1.mono hk, h2⟩
theorem ChAt.more {w : World} {S : Nat → Prop} {fs : List Nat} {c : Chg} {v : Value} (h : ChAt w S fs c v) (hc : chOk fs.length c) (b : Nat) : ChAt w S (fs ++ [b]) c v := by
  cases c with
  | put k i => obtain ⟨bf, bk, s, e, h1, h2, h3⟩ := h; exact ⟨bf, bk, s, e, by rw [blk_snoc_lt hc.2]; exact h1, h2, h3⟩
  | move a b i => exact h
  | del a => exact h

structure ChsAt (w : World) (S : Nat → Prop) (fs : List Nat) (C : List Chg) (cv : Value) (cvs : List Value) : Prop where
  row : w.ownsRow 0 79 1 cv C.length cvs
  ch : ∀ (j : Nat) (c : Chg), C[j]? = some c → ∃ v, cvs[j]? = some v ∧ ChAt w S fs c v
  s_c : ∀ b, cv.ownBlock = some b → S b

theorem ownsRow_kept {w w' : World} {base : Nat} {e : TypeId} {size : Nat} {v : Value} {n : Nat} {xs : List Value} (h : w.ownsRow base e size v n xs) (hk : ∀ b, v.ownBlock = some b → w'.heap[b]? = w.heap[b]?) : w'.ownsRow base e size v n xs := by
  refine ⟨h.1, ?_⟩
  rcases h.2 with hn | ⟨g, cap, cur, rfl, hb, hg, r⟩
  · exact .inl hn
  · exact .inr ⟨g, cap, cur, rfl, hb, (hk g rfl).trans hg, r⟩
theorem ChsAt.kept {w w' : World} {S : Nat → Prop} {fs : List Nat} {C : List Chg} {cv : Value} {cvs : List Value} (h : ChsAt w S fs C cv cvs) (hk : ∀ b, S b → w'.heap[b]? = w.heap[b]?) : ChsAt w' S fs C cv cvs :=
  ⟨ownsRow_kept h.row fun b hb => hk b (h.s_c b hb), fun j c hc => let ⟨v, h1, h2⟩ := h.ch j c hc; ⟨v, h1, h2.keptB fun b _ _ _ hb => hk b hb.1⟩, h.s_c⟩
/-- .. boxes and the row of the changes are kept. -/
theorem ChsAt.keptB {w w' : World} {S : Nat → Prop} {fs : List Nat} {C : List Chg} {cv : Value} {cvs : List Value} (h : ChsAt w S fs C cv cvs)
    (hk : ∀ b c T, S b → w.heap[b]? = some (.cells c T (0, 0)) → (T = 61 ∨ T = 9 ∨ T = 79) → w'.heap[b]? = w.heap[b]?) : ChsAt w' S fs C cv cvs := by
  refine ⟨ownsRow_kept h.row fun b hb => ?_, fun j c hc => let ⟨v, h1, h2⟩ := h.ch j c hc; ⟨v, h1, h2.keptB fun b x T hT hb => hk b _ T hb.1 hb.2 (hT.elim .inl fun e => .inr (.inl e))⟩, h.s_c⟩
  rcases h.row.2 with ⟨hn, _⟩ | ⟨g, cap, cur, hv, _, hg, _⟩
  · rw [hn] at hb; cases hb
  · rw [hv] at hb; cases hb
    exact hk g _ _ (h.s_c g (by rw [hv]; rfl)) hg (.inr (.inr rfl))
theorem ChsAt.mono {w : World} {S T : Nat → Prop} {fs : List Nat} {C : List Chg} {cv : Value} {cvs : List Value} (h : ChsAt w S fs C cv cvs) (hS : ∀ b, S b → T b) : ChsAt w T fs C cv cvs :=
  ⟨h.row, fun j c hc => let ⟨v, h1, h2⟩ := h.ch j c hc; ⟨v, h1, h2.mono hS⟩, fun b hb => hS b (h.s_c b hb)⟩
theorem ChsAt.more {w : World} {S : Nat → Prop} {fs : List Nat} {C : List Chg} {cv : Value} {cvs : List Value} (h : ChsAt w S fs C cv cvs) (hc : ∀ c ∈ C, chOk fs.length c) (b : Nat) : ChsAt w S (fs ++ [b]) C cv cvs :=
  ⟨h.row, fun j c hj => let ⟨v, h1, h2⟩ := h.ch j c hj; ⟨v, h1, h2.more (hc c (List.mem_of_getElem? hj)) b⟩, h.s_c⟩
theorem ChsAt.none (w : World) (S : Nat → Prop) (fs : List Nat) : ChsAt w S fs [] (.slice none 0 0) [] :=
  ⟨World.ownsRow_nil _ _ _ _, fun j c h => by simp at h, fun b hb => by cases hb⟩

/-! ### the disk -/
structure Ghost where
  bn : Nat
  bl : Nat
  fv : Int
  cv : Value
  fs : List Nat
  rows : List (Option Nat)
  cvs : List Value

def cellsOf (st : St) (g : Ghost) : Array Value := #[.int .i64 st.room, .bool (!st.dead), .int .i64 g.fv, .map (some g.bn), .map (some g.bl), g.cv]

/-- What lies in memory, whatever the state. -/
structure DiskM (w : World) (S : Nat → Prop) (p : Nat) (st : St) (g : Ghost) : Prop where
  cell : w.heap[p]? = some (.cells (cellsOf st g) 60 (0, 0))
  fuse : max (-1) g.fv = st.left
  wf : -9223372036854775808 ≤ g.fv ∧ g.fv ≤ 9223372036854775807
  wr : -9223372036854775808 ≤ st.room ∧ st.room ≤ 9223372036854775807
  now : MapAt w g.bn g.fs st.N
  last : MapAt w g.bl g.fs st.L
  two : g.bn ≠ g.bl
  files : FilesAt w S st.F g.fs g.rows
  chs : ChsAt w S g.fs st.C g.cv g.cvs
  s_p : S p
  s_n : S g.bn
  s_l : S g.bl
  lt : ∀ b, S b → b < w.heap.size

structure DiskG (w : World) (S : Nat → Prop) (p : Nat) (st : St) (g : Ghost) : Prop extends DiskM w S p st g where
  fine : Fine st

def IsDisk (w : World) (S : Nat → Prop) (p : Nat) (st : St) : Prop := ∃ g, DiskG w S p st g

theorem DiskM.kept {w w' : World} {S : Nat → Prop} {p : Nat} {st : St} {g : Ghost} (h : DiskM w S p st g) (hk : ∀ b, S b → w'.heap[b]? = w.heap[b]?) (hs : w.heap.size ≤ w'.heap.size) : DiskM w' S p st g :=
  { h with cell := (hk p h.s_p).trans h.cell, now := h.now.kept (hk _ h.s_n), last := h.last.kept (hk _ h.s_l), files := h.files.kept hk, chs := h.chs.kept hk, lt := fun b hb => Nat.lt_of_lt_of_le (h.lt b hb) hs }
theorem DiskG.kept {w w' : World} {S : Nat → Prop} {p : Nat} {st : St} {g : Ghost} (h : DiskG w S p st g) (hk : ∀ b, S b → w'.heap[b]? = w.heap[b]?) (hs : w.heap.size ≤ w'.heap.size) : DiskG w' S p st g :=
  { h.toDiskM.kept hk hs with fine := h.fine }
theorem IsDisk.kept {w w' : World} {S : Nat → Prop} {p : Nat} {st : St} (h : IsDisk w S p st) (hk : ∀ b, S b → w'.heap[b]? = w.heap[b]?) (hs : w.heap.size ≤ w'.heap.size) : IsDisk w' S p st := let ⟨g, hg⟩ := h; ⟨g, hg.kept hk hs⟩
theorem IsDisk.fine {w : World} {S : Nat → Prop} {p : Nat} {st : St} (h : IsDisk w S p st) : Fine st := let ⟨_, hg⟩ := h; hg.fine
theorem IsDisk.lt {w : World} {S : Nat → Prop} {p : Nat} {st : St} (h : IsDisk w S p st) : ∀ b, S b → b < w.heap.size := let ⟨_, hg⟩ := h; hg.lt
/-- Other blocks are written. -/
theorem IsDisk.upon {w w' : World} {S T : Nat → Prop} {p : Nat} {st : St} (h : IsDisk w S p st) (hu : Upon T w w') (ha : ∀ b, S b → ¬ T b) : IsDisk w' S p st :=
  h.kept (fun b hb => hu.block b (h.lt b hb) (ha b hb)) hu.size

/-- What a step of the disk leaves: it is now st; it has taken new blocks at most; nothing else has turned. -/
structure Step (S : Nat → Prop) (p : Nat) (st : St) (w w' : World) : Prop where
  disk : ∃ S', IsDisk w' S' p st ∧ (∀ b, S b → S' b) ∧ ∀ b, S' b → S b ∨ w.heap.size ≤ b
  upon : Upon S w w'

theorem Step.same {w : World} {S : Nat → Prop} {p : Nat} {st : St} (h : IsDisk w S p st) : Step S p st w w := ⟨⟨S, h, fun _ h => h, fun _ h => .inl h⟩, Upon.refl _ _⟩
/-- Two steps. -/
theorem Step.trans {a b c : World} {S : Nat → Prop} {p : Nat} {st1 st2 : St} (h : Step S p st1 a b) (k : ∀ S', IsDisk b S' p st1 → Step S' p st2 b c) : Step S p st2 a c := by
  obtain ⟨⟨S', h1, h2, h3⟩, hu⟩ := h
  obtain ⟨⟨S'', k1, k2, k3⟩, ku⟩ := k S' h1
  refine ⟨⟨S'', k1, fun x hx => k2 x (h2 x hx), fun x hx => ?_⟩, ?_⟩
  · rcases k3 x hx with h | h
    · exact h3 x h
    · exact .inr (Nat.le_trans hu.size h)
  · refine hu.trans' ku fun i hi hs => ?_
    rcases h3 i hs with h | h
    · exact h
    · omega
/-- Something else is done behind a step. -/
theorem Step.then {a b c : World} {S : Nat → Prop} {p : Nat} {st : St} (h : Step S p st a b) (k : Upon (fun _ => False) b c) : Step S p st a c := by
  obtain ⟨⟨S', h1, h2, h3⟩, hu⟩ := h
  exact ⟨⟨S', h1.upon k fun _ _ h => h, h2, h3⟩, hu.trans' k fun _ _ => False.elim⟩
/-- .. or ahead of it: blocks that are new. -/
theorem Step.first {a b c : World} {S : Nat → Prop} {p : Nat} {st : St} (k : Upon (fun _ => False) a b) (h : Step S p st b c) : Step S p st a c := by
  obtain ⟨⟨S', h1, h2, h3⟩, hu⟩ := h
  exact ⟨⟨S', h1, h2, fun b hb => (h3 b hb).elim .inl fun h => .inr (Nat.le_trans k.size h)⟩, (k.mono fun _ _ => False.elim).trans' hu fun _ _ h => h⟩
/-- A step that leaves the files where they are, and all boxes of pointers and texts as they are. -/
structure StepF (S : Nat → Prop) (p : Nat) (st : St) (fs : List Nat) (w w' : World) : Prop where
  disk : ∃ S' g, DiskG w' S' p st g ∧ g.fs = fs ∧ (∀ b, S b → S' b) ∧ ∀ b, S' b → S b ∨ w.heap.size ≤ b
  upon : Upon S w w'
  boxes : ∀ (b : Nat) c T z, w.heap[b]? = some (Obj.cells c T z) → (T = 61 ∨ T = 9) → w'.heap[b]? = w.heap[b]?
theorem StepF.step {S : Nat → Prop} {p : Nat} {st : St} {fs : List Nat} {w w' : World} (h : StepF S p st fs w w') : Step S p st w w' := by
  obtain ⟨S', g, h1, _, h2, h3⟩ := h.disk
  have hu := h.upon
  exact ⟨⟨S', ⟨g, h1⟩, h2, h3⟩, hu⟩
theorem more_of {S : Nat → Prop} {w w' : World} : ∀ b, more S w w' b → S b ∨ w.heap.size ≤ b := fun _ h => h.elim .inl fun h => .inr h.1
end Dsk
end Go.Proofs.Ytfpphahdbhelcaa
