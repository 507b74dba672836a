/- What the disk's small methods do (layer 4): New, write, Fuse, Up, Sync, Read; what a name is. -/
import Derived.Test.YtfpphahdbhelcaaDiskClo
import Derived.Carry
namespace Go.Proofs.Ytfpphahdbhelcaa
open Go.RowKit
namespace Dsk
open Go.Maps

/-- The disk's own cells turn, nothing else. -/
theorem DiskG.turn {w w' : World} {S : Nat → Prop} {p : Nat} {st st' : St} {g : Ghost} {f : Int} (h : DiskG w S p st g) (hp : w'.heap[p]? = some (.cells (cellsOf st' { g with fv := f }) 60 (0, 0)))
    (hk : ∀ b, b ≠ p → w'.heap[b]? = w.heap[b]?) (hs : w.heap.size ≤ w'.heap.size) (hfine : Fine st') (eF : st'.F = st.F) (eN : st'.N = st.N) (eL : st'.L = st.L) (eC : st'.C = st.C) (er : st'.room = st.room)
    (hf : max (-1) f = st'.left) (hw : -9223372036854775808 ≤ f ∧ f ≤ 9223372036854775807) : DiskG w' S p st' { g with fv := f } := by
  have hc : ∀ (b : Nat) c T z, w.heap[b]? = some (Obj.cells c T z) → T ≠ 60 → w'.heap[b]? = w.heap[b]? := fun b c T z hb hT => hk b (by
    rintro rfl; rw [h.cell] at hb; simp at hb; exact hT hb.2.1.symm)
  have hm : ∀ (b : Nat) es clock, w.heap[b]? = some (Obj.map es clock) → w'.heap[b]? = w.heap[b]? := fun b es clock hb => hk b (by rintro rfl; rw [h.cell] at hb; cases hb)
  exact {
    fine := hfine
    cell := hp
    fuse := hf
    wf := hw
    wr := by rw [er]; exact h.wr
    now := by rw [eN]; exact map_kept_cells h.now (hm _)
    last := by rw [eL]; exact map_kept_cells h.last (hm _)
    two := h.two
    files := by rw [eF]; exact files_keptB h.files fun b c T z _ hb hT => hc b c T z hb (by rintro rfl; rcases hT with e | e <;> cases e)
    chs := by rw [eC]; exact h.chs.keptB fun b c T _ hb hT => hc b c T _ hb (by rintro rfl; rcases hT with e | e | e <;> cases e)
    s_p := h.s_p
    s_n := h.s_n
    s_l := h.s_l
    lt := fun b hb => Nat.lt_of_lt_of_le (h.lt b hb) hs }

theorem DiskG.turnStep {w : World} {S : Nat → Prop} {p o : Nat} {st st' : St} {g : Ghost} {f : Int} {v : Value} (h : DiskG w S p st g) (hp : (cellsOf st g).setIfInBounds o v = cellsOf st' { g with fv := f })
    (hfine : Fine st') (eF : st'.F = st.F) (eN : st'.N = st.N) (eL : st'.L = st.L) (eC : st'.C = st.C) (er : st'.room = st.room)
    (hf : max (-1) f = st'.left) (hw : -9223372036854775808 ≤ f ∧ f ≤ 9223372036854775807) : Step S p st' w (w.setCell ⟨p, o, none⟩ v) :=
  ⟨⟨S, ⟨_, h.turn (by rw [set6 h.cell, hp]) (fun b hb => Below.heap_setCell _ _ _ _ hb) (by simp [World.setCell]) hfine eF eN eL eC er hf hw⟩, fun _ h => h, fun _ h => .inl h⟩, (Upon.refl S w).setCell (p := ⟨p, o, none⟩) (.inl h.s_p) v⟩

/-- What becomes of a disk whose file i is written. -/
theorem DiskG.wrote {w w' : World} {S : Nat → Prop} {p : Nat} {st : St} {g : Ghost} (h : DiskG w S p st g) {i : Nat} {f : FileS} (hi : st.F[i]? = some f) {l : Str} {n : Nat} (hw : Wrote (blk g.fs i) (g.rows.getD i none) l n w w')
    {q : FileS → FileS} (hq : q f = ⟨l, n⟩) (hfine : Fine { st with F := st.F.modify i q }) : Step S p { st with F := st.F.modify i q } w w' := by
  obtain ⟨rows', hF⟩ := h.files.wrote hi hw hq
  have hil := (List.getElem?_eq_some_iff.1 hi).1
  have hfile := h.files.file i f hi
  have hu := hw.upon
  have hty : ∀ b, (b = blk g.fs i ∨ some b = g.rows.getD i none) → ∃ c T z, w.heap[b]? = some (.cells c T z) ∧ (T = 66 ∨ T = 5) := by
    intro b hb
    obtain ⟨_, _, _, hbk, hv⟩ := hfile
    rcases hb with rfl | e
    · exact ⟨_, _, _, hbk, .inl rfl⟩
    · obtain ⟨c, fz, hc⟩ := hv.type b e.symm
      exact ⟨_, _, _, hc, .inr rfl⟩
  have hc : ∀ (b : Nat) c T z, S b → w.heap[b]? = some (Obj.cells c T z) → T ≠ 66 → T ≠ 5 → w'.heap[b]? = w.heap[b]? := fun b c T z hS hb h1 h2 => hu.block b (h.lt b hS) (fun e => by
    obtain ⟨c', T', z', hb', hT⟩ := hty b e
    rw [hb] at hb'; cases hb'
    exact hT.elim h1 h2)
  have hm : ∀ (b : Nat) es clock, S b → w.heap[b]? = some (Obj.map es clock) → w'.heap[b]? = w.heap[b]? := fun b es clock hS hb => hu.block b (h.lt b hS) (fun e => by
    obtain ⟨c', T', z', hb', hT⟩ := hty b e
    rw [hb] at hb'; cases hb')
  refine ⟨⟨more S w w', ⟨{ g with rows := rows' }, ?_⟩, fun b hb => .inl hb, more_of⟩, hu.mono fun b _ hb => ?_⟩
  · exact {
      fine := hfine
      cell := (hc p _ _ _ h.s_p h.cell (by intro e; cases e) (by intro e; cases e)).trans h.cell
      fuse := h.fuse
      wf := h.wf
      wr := h.wr
      now := map_kept_cells h.now (hm _ · · h.s_n)
      last := map_kept_cells h.last (hm _ · · h.s_l)
      two := h.two
      files := hF
      chs := (h.chs.keptB fun b c T hS hb hT => hc b c T _ hS hb (by rintro rfl; rcases hT with e | e | e <;> cases e) (by rintro rfl; rcases hT with e | e | e <;> cases e)).mono fun b hb => .inl hb
      s_p := .inl h.s_p
      s_n := .inl h.s_n
      s_l := .inl h.s_l
      lt := fun b hb => hb.elim (fun hb => Nat.lt_of_lt_of_le (h.lt b hb) hu.size) (fun hb => hb.2) }
  · rcases hb with rfl | e
    · exact h.files.s_f i hil
    · exact h.files.s_r i b e.symm

/-- .. as it was. -/
theorem DiskG.wroteSame {w w' : World} {S : Nat → Prop} {p : Nat} {st : St} {g : Ghost} (h : DiskG w S p st g) {i : Nat} {f : FileS} (hi : st.F[i]? = some f) (hw : Wrote (blk g.fs i) (g.rows.getD i none) f.s f.lasts w w') : Step S p st w w' := by
  have e : ({ st with F := st.F.modify i id } : St) = st := by rw [List.modify_id]
  have := h.wrote hi hw (q := id) rfl (by rw [e]; exact h.fine)
  rwa [e] at this

/-! ### New -/
/-- What New leaves. -/
def Made (room : Int) (w : World) (e : Ending) (w' : World) : Prop :=
  ∃ S p, e = .returned (.pointer (some ⟨p, 0, none⟩)) ∧ IsDisk w' S p (new room) ∧ (∀ b, S b → w.heap.size ≤ b) ∧ Upon (fun _ => False) w w'

theorem made_new (room : Int) (hr : -9223372036854775808 ≤ room ∧ room ≤ 9223372036854775807) (w : World) :
    Made room w (.returned (.pointer (some ⟨w.heap.size + 2, 0, none⟩))) (((w.alloc (.map #[] 0)).alloc (.map #[] 0)).alloc (.cells #[.int .i64 room, .bool true, .int .i64 (-1), .map (some w.heap.size), .map (some (w.heap.size + 1)), .slice none 0 0] 60 (0, 0))) := by
  have hu := (((Upon.refl (fun _ => False) w).alloc (.map #[] 0)).alloc (.map #[] 0)).alloc (.cells #[.int .i64 room, .bool true, .int .i64 (-1), .map (some w.heap.size), .map (some (w.heap.size + 1)), .slice none 0 0] 60 (0, 0))
  refine ⟨fun b => w.heap.size ≤ b ∧ b < w.heap.size + 3, w.heap.size + 2, rfl, ⟨⟨w.heap.size, w.heap.size + 1, -1, .slice none 0 0, [], [], []⟩, ?_⟩, fun b hb => hb.1, hu⟩
  have h1 : (w.alloc (.map #[] 0)).heap.size = w.heap.size + 1 := by simp
  have h2 : ((w.alloc (.map #[] 0)).alloc (.map #[] 0)).heap.size = w.heap.size + 2 := by simp
  exact {
    fine := fine_new room
    cell := by have := cell_new ((w.alloc (.map #[] 0)).alloc (.map #[] 0)) (.cells #[.int .i64 room, .bool true, .int .i64 (-1), .map (some w.heap.size), .map (some (w.heap.size + 1)), .slice none 0 0] 60 (0, 0)); rw [h2] at this; exact this
    fuse := rfl
    wf := ⟨by simp only; omega, by simp only; omega⟩
    wr := hr
    now := by
      have h := MapAt.of (fs := []) (N := []) (World.ownsMap_made w Try.prog 9 ptrElem)
      exact (h.kept (Below.heap_alloc _ _ _ (by simp))).kept (Below.heap_alloc _ _ _ (by simp; omega))
    last := by
      have h := MapAt.of (fs := []) (N := []) (World.ownsMap_made (w.alloc (.map #[] 0)) Try.prog 9 ptrElem)
      rw [h1] at h
      exact h.kept (Below.heap_alloc _ _ _ (by simp))
    two := by simp
    files := ⟨rfl, rfl, fun i f h => by simp [new] at h, fun i j h => by simp [new] at h, fun i j b h => by simp at h, fun i h => by simp [new] at h, fun i b h => by simp at h⟩
    chs := ChsAt.none _ _ _
    s_p := ⟨by omega, by omega⟩
    s_n := ⟨by simp, by simp⟩
    s_l := ⟨by simp, by simp⟩
    lt := fun b hb => by have := hb.2; simp; omega }

set_option maxHeartbeats 800000 in
theorem new_any (room : Int) (hr : -9223372036854775808 ≤ room ∧ room ≤ 9223372036854775807) (w : World) : Calls Try.prog 8 #[.int .i64 room] w (Made room w) := by
  have H := Lib.hid (made_new room hr w)
  have hmm := @run_makeMap Try.prog
  go_enter Try.func8, Try.ntmps8
  go_wp2
  go_ret
  exact H.out

/-! ### write, Fuse, Up -/
theorem wr_lemma1 {w : World} {S : Nat → Prop} {p : Nat} {st : St} {g : Ghost} (h : DiskG w S p st g) (h0 : g.fv = 0) : wrB st = false ∧ Step S p (wrS st) w (w.setCell ⟨p, 1, none⟩ (.bool false)) := by
  have hl : st.left = 0 := by have := h.fuse; omega
  have e : wrS st = { st with dead := true } := by unfold wrS; rw [hl]; simp
  refine ⟨by simp [wrB, hl], ?_⟩
  rw [e]
  exact h.turnStep (f := g.fv) rfl { h.fine with } rfl rfl rfl rfl rfl h.fuse h.wf
theorem wr_lemma2 {w : World} {S : Nat → Prop} {p : Nat} {st : St} {g : Ghost} (h : DiskG w S p st g) (hd : st.dead = true) : wrB st = false ∧ Step S p (wrS st) w w := by
  have e : wrS st = st := by unfold wrS; rw [hd]; simp; cases st; simp_all
  refine ⟨by simp [wrB, hd], ?_⟩
  rw [e]
  exact Step.same ⟨g, h⟩
theorem wr_lemma3 {w : World} {S : Nat → Prop} {p : Nat} {st : St} {g : Ghost} (h : DiskG w S p st g) (hd : st.dead = false) (h0 : 0 < g.fv) : wrB st = true ∧ Step S p (wrS st) w (w.setCell ⟨p, 2, none⟩ (.int .i64 (g.fv - 1))) := by
  have hl : st.left = g.fv := by have := h.fuse; omega
  have hb : (st.left == 0) = false := by rw [hl]; simpa using (by omega : g.fv ≠ 0)
  have e : wrS st = { st with left := st.left - 1 } := by unfold wrS; rw [hd, hb]; simp; omega
  refine ⟨by simp [wrB, hd]; omega, ?_⟩
  rw [e]
  have hw := h.wf
  refine h.turnStep (f := g.fv - 1) ?_ { h.fine with left := by simp only; omega } rfl rfl rfl rfl rfl (by simp only; omega) ⟨by omega, by omega⟩
  simp [cellsOf]
theorem wr_lemma4 {w : World} {S : Nat → Prop} {p : Nat} {st : St} {g : Ghost} (h : DiskG w S p st g) (hd : st.dead = false) (h0 : g.fv < 0) : wrB st = true ∧ Step S p (wrS st) w w := by
  have hl : st.left = -1 := by have := h.fuse; omega
  have e : wrS st = st := by unfold wrS; rw [hd, hl]; simp
  refine ⟨by simp [wrB, hd, hl], ?_⟩
  rw [e]
  exact Step.same ⟨g, h⟩

set_option maxHeartbeats 1600000 in
theorem wr_any (S : Nat → Prop) (p : Nat) (st : St) (w : World) (h : IsDisk w S p st) :
    Calls Try.prog 39 #[.pointer (some ⟨p, 0, none⟩)] w fun e w' => e = .returned (.bool (wrB st)) ∧ Step S p (wrS st) w w' := by
  obtain ⟨g, h⟩ := h
  obtain ⟨k0, k1, k2, k3, k4, k5, kf⟩ := c6 h.cell
  have kf1 := kf 1
  have kf2 := kf 2
  obtain ⟨w0, w1⟩ := h.wf
  clear k0 k3 k4 k5 kf
  by_cases h0 : g.fv = 0
  · obtain ⟨e, hs⟩ := wr_lemma1 h h0
    rw [e]
    replace hs := Lib.hid hs
    rw [h0] at k2
    clear h e h0 w0 w1
    go_enter Try.func39, Try.ntmps39
    go_wp2
    go_ret
    exact ⟨rfl, hs.out⟩
  · have h0' : (g.fv == 0) = false := by simpa using h0
    cases hd : st.dead with
    | true =>
      obtain ⟨e, hs⟩ := wr_lemma2 h hd
      rw [e]
      replace hs := Lib.hid hs
      rw [hd] at k1
      simp only [Bool.not_true] at k1
      clear h e hd
      go_enter Try.func39, Try.ntmps39
      go_wp2
      go_ret
      exact ⟨rfl, hs.out⟩
    | false =>
      rw [hd] at k1
      simp only [Bool.not_false] at k1
      by_cases h1 : 0 < g.fv
      · obtain ⟨e, hs⟩ := wr_lemma3 h hd h1
        rw [e]
        replace hs := Lib.hid hs
        clear h e hd
        go_enter Try.func39, Try.ntmps39
        go_wp2
        go_ret
        exact ⟨rfl, hs.out⟩
      · obtain ⟨e, hs⟩ := wr_lemma4 h hd (by omega)
        rw [e]
        replace hs := Lib.hid hs
        clear h e hd
        go_enter Try.func39, Try.ntmps39
        go_wp2
        go_ret
        exact ⟨rfl, hs.out⟩

set_option maxHeartbeats 800000 in
theorem up_any (S : Nat → Prop) (p : Nat) (st : St) (w : World) (h : IsDisk w S p st) :
    Calls Try.prog 16 #[.pointer (some ⟨p, 0, none⟩)] w fun e w' => e = .returned (.bool (!st.dead)) ∧ w = w' := by
  obtain ⟨g, h⟩ := h
  obtain ⟨k0, k1, k2, k3, k4, k5, kf⟩ := c6 h.cell
  clear k0 k2 k3 k4 k5 kf h
  go_enter Try.func16, Try.ntmps16
  go_wp2
  go_ret
  exact ⟨rfl, rfl⟩

set_option maxHeartbeats 800000 in
theorem fuse_any (S : Nat → Prop) (p : Nat) (st : St) (n : Int) (hn : -9223372036854775808 ≤ n ∧ n ≤ 9223372036854775807) (w : World) (h : IsDisk w S p st) :
    Calls Try.prog 24 #[.pointer (some ⟨p, 0, none⟩), .int .i64 n] w fun e w' => e = .returned (.tuple #[]) ∧ Step S p (fuse st n) w w' := by
  obtain ⟨g, h⟩ := h
  obtain ⟨k0, k1, k2, k3, k4, k5, kf⟩ := c6 h.cell
  have kf2 := kf 2
  clear k0 k3 k4 k5 kf
  cases hd : st.dead with
  | true =>
    have hs := Lib.hid (show Step S p (fuse st n) w w by unfold fuse; rw [hd]; exact Step.same ⟨g, h⟩)
    rw [hd] at k1
    simp only [Bool.not_true] at k1
    clear h hd
    go_enter Try.func24, Try.ntmps24
    go_wp2
    go_end0
    exact ⟨rfl, hs.out⟩
  | false =>
    have hs := Lib.hid (show Step S p (fuse st n) w (w.setCell ⟨p, 2, none⟩ (.int .i64 n)) by
      have e : fuse st n = { st with left := max (-1) n } := by unfold fuse; rw [hd]; rfl
      rw [e]
      exact h.turnStep (f := n) rfl { h.fine with left := by show -1 ≤ max (-1) n; omega } rfl rfl rfl rfl rfl rfl hn)
    rw [hd] at k1
    simp only [Bool.not_false] at k1
    clear h hd
    go_enter Try.func24, Try.ntmps24
    go_wp2
    go_end0
    exact ⟨rfl, hs.out⟩
end Dsk
end Go.Proofs.Ytfpphahdbhelcaa
