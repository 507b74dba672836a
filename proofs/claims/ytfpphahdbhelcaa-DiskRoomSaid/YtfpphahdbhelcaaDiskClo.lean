/- What the function values do that change the disk's names (layer 4), what (*Disk).change does with one, and (*Disk).settle with all of them. -/
import Derived.Test.YtfpphahdbhelcaaDiskState
import Derived.Maps.OwnSet
import Derived.Outline
namespace Go.Proofs.Ytfpphahdbhelcaa
open Go.RowKit
namespace Dsk
open Go.Maps

theorem wpList_look_some (w : World) {ops : Array Oper} {rest : List Oper} {o : Oper} {a : Act} {Q : Exit → Act → World → Prop}
    (hg : o.guard = none) (m x : Operand) (hop : o.op = Op.lookup 57 m x false) (b : Nat) (fs : List Nat) (N : Nms)
    (hm : a.eval m = .map (some b)) (h : MapAt w b fs N) (k : ByteArray) (hx : a.eval x = .string k) (hk : k.size ≤ maxLen) (i : Nat) (hi : lookN N k.data.toList = some i)
    (hK : wpList Try.prog ops Q rest (a.put o.dst (.pointer (some ⟨blk fs i, 0, none⟩))) w) :
    wpList Try.prog ops Q (o :: rest) a w := wpList_look w hg m x hop b fs N hm h k hx hk (by rw [hi]; exact hK)
theorem wpList_look_none (w : World) {ops : Array Oper} {rest : List Oper} {o : Oper} {a : Act} {Q : Exit → Act → World → Prop}
    (hg : o.guard = none) (m x : Operand) (hop : o.op = Op.lookup 57 m x false) (b : Nat) (fs : List Nat) (N : Nms)
    (hm : a.eval m = .map (some b)) (h : MapAt w b fs N) (k : ByteArray) (hx : a.eval x = .string k) (hk : k.size ≤ maxLen) (hi : lookN N k.data.toList = none)
    (hK : wpList Try.prog ops Q rest (a.put o.dst (.pointer none)) w) :
    wpList Try.prog ops Q (o :: rest) a w := wpList_look w hg m x hop b fs N hm h k hx hk (by rw [hi]; exact hK)

/-- What such a function value leaves. -/
def CloPost (b : Nat) (fs : List Nat) (N : Nms) (w : World) (e : Ending) (w' : World) : Prop := e = .returned (.tuple #[]) ∧ MapAt w' b fs N ∧ w.grownBy w' (some b)

theorem ne_of_map {w : World} {b c : Nat} {fs : List Nat} {N : Nms} {x : Array Value} {T : TypeId} {z : Nat × Nat} (h : MapAt w b fs N) (hc : w.heap[c]? = some (.cells x T z)) : c ≠ b := by
  obtain ⟨es, clock, hb, _⟩ := h
  rintro rfl
  rw [hb] at hc; cases hc

set_option maxHeartbeats 800000 in
theorem clo_put (b : Nat) (fs : List Nat) (N : Nms) (i bf bk : Nat) (s : ByteArray) (w : World) (hm : MapAt w b fs N) (hN : N.length ≤ 1000000000) (hs : s.size ≤ 32)
    (hf : w.heap[bf]? = some (.cells #[.pointer (some ⟨blk fs i, 0, none⟩)] 61 (0, 0))) (hk : w.heap[bk]? = some (.cells #[.string s] 9 (0, 0))) :
    Calls Try.prog 42 #[.map (some b), .pointer (some ⟨bf, 0, none⟩), .pointer (some ⟨bk, 0, none⟩)] w (CloPost b fs (putN N s.data.toList i) w) := by
  have cf := cell_of_one hf
  have ck := cell_of_one hk
  have HM := Lib.hid hm
  clear hf hk hm
  go_enter Try.func42, Try.ntmps42
  go_wp2_with (at_mapUpdate; refine wpList_putN _ rfl _ _ _ rfl b fs N rfl HM.out (by unfold maxLen; omega) s rfl (by unfold maxLen; omega) i rfl ?_)
  intro w1 hm1 hg1
  replace hm1 := Lib.hid hm1
  replace hg1 := Lib.hid hg1
  clear cf ck
  go_wp2
  go_end0
  exact ⟨rfl, hm1.out, hg1.out⟩

set_option maxHeartbeats 800000 in
theorem clo_del (b : Nat) (fs : List Nat) (N : Nms) (ba : Nat) (s : ByteArray) (w : World) (hm : MapAt w b fs N) (hs : s.size ≤ 32)
    (hk : w.heap[ba]? = some (.cells #[.string s] 9 (0, 0))) :
    Calls Try.prog 52 #[.map (some b), .pointer (some ⟨ba, 0, none⟩)] w (CloPost b fs (delN N s.data.toList) w) := by
  have ck := cell_of_one hk
  have HM := Lib.hid hm
  clear hk hm
  go_enter Try.func52, Try.ntmps52
  go_wp2_with (at_delete; refine wpList_delN _ rfl _ _ rfl b fs N rfl HM.out s rfl (by unfold maxLen; omega) ?_)
  intro w1 hm1 hg1
  replace hm1 := Lib.hid hm1
  replace hg1 := Lib.hid hg1
  clear ck
  go_wp2
  go_end0
  exact ⟨rfl, hm1.out, hg1.out⟩

set_option maxHeartbeats 1600000 in
set_option maxRecDepth 100000 in
theorem clo_move (b : Nat) (fs : List Nat) (N : Nms) (i ba bb : Nat) (s t : ByteArray) (w : World) (hm : MapAt w b fs N) (hN : N.length ≤ 1000000000) (hs : s.size ≤ 32) (ht : t.size ≤ 32) (hi : lookN N s.data.toList = some i)
    (ha : w.heap[ba]? = some (.cells #[.string s] 9 (0, 0))) (hb : w.heap[bb]? = some (.cells #[.string t] 9 (0, 0))) :
    Calls Try.prog 48 #[.map (some b), .pointer (some ⟨ba, 0, none⟩), .pointer (some ⟨bb, 0, none⟩)] w (CloPost b fs (putN (delN N s.data.toList) t.data.toList i) w) := by
  have ca := cell_of_one ha
  have HM := Lib.hid hm
  have nb := ne_of_map hm hb
  have lb := lt_of_block hb
  have HB := Lib.hid hb
  have HI := Lib.hid hi
  have NB := Lib.hid nb
  clear ha hb hm hi nb
  go_enter Try.func48, Try.ntmps48
  have hs9 : s.size ≤ maxLen := by unfold maxLen; omega
  go_wp2_with (first
    | (at_lookup; refine wpList_look_some _ rfl _ _ rfl b fs N rfl HM.out s rfl hs9 i HI.out ?_)
    | (at_delete; refine wpList_delN _ rfl _ _ rfl b fs N rfl HM.out s rfl hs9 ?_))
  intro w1 hm1 hg1
  have hb1 : w1.heap[bb]? = some (.cells #[.string t] 9 (0, 0)) := (hg1.block bb lb (fun e => NB.out (Option.some.inj e))).trans HB.out
  have cb := cell_of_one hb1
  replace hm1 := Lib.hid hm1
  replace hg1 := Lib.hid hg1
  have HL := Lib.hid (len_del_le N s.data.toList)
  clear ca hb1
  go_wp2_with (at_mapUpdate; refine wpList_putN _ rfl _ _ _ rfl b fs (delN N s.data.toList) rfl hm1.out (by have := HL.out; unfold maxLen; omega) t rfl (by unfold maxLen; omega) i rfl ?_)
  intro w2 hm2 hg2
  replace hm2 := Lib.hid hm2
  have HG := Lib.hid (show w.grownBy w2 (some b) from hg1.out.andThen hg2 (fun j hj => Or.inr hj))
  clear cb hg2
  go_wp2
  go_end0
  exact ⟨rfl, hm2.out, HG.out⟩

theorem infoF : (Try.prog.info? 79).map (fun i => (i.zero, i.size, i.bytes)) = some (some .nilFunc, 1, 8) := by kernel_rfl

/-- Where the change's function value lies, and what it leaves of a map of names. -/
theorem clo_at {w : World} {S : Nat → Prop} {fs : List Nat} {N : Nms} {c : Chg} {cl : Value} {b n : Nat} (hc : ChAt w S fs c cl) (ho : okC N c) (hk : chOk n c) (hm : MapAt w b fs N) (hN : N.length ≤ 1000000000) :
    (∃ bf bk, cl = .func (.func 42) #[] #[.pointer (some ⟨bf, 0, none⟩), .pointer (some ⟨bk, 0, none⟩)] ∧ Calls Try.prog 42 #[.map (some b), .pointer (some ⟨bf, 0, none⟩), .pointer (some ⟨bk, 0, none⟩)] w (CloPost b fs (appC N c) w)) ∨
    (∃ ba bb, cl = .func (.func 48) #[] #[.pointer (some ⟨ba, 0, none⟩), .pointer (some ⟨bb, 0, none⟩)] ∧ Calls Try.prog 48 #[.map (some b), .pointer (some ⟨ba, 0, none⟩), .pointer (some ⟨bb, 0, none⟩)] w (CloPost b fs (appC N c) w)) ∨
    (∃ ba, cl = .func (.func 52) #[] #[.pointer (some ⟨ba, 0, none⟩)] ∧ Calls Try.prog 52 #[.map (some b), .pointer (some ⟨ba, 0, none⟩)] w (CloPost b fs (appC N c) w)) := by
  cases c with
  | put k i =>
    obtain ⟨bf, bk, s, e, h1, h2, rfl⟩ := hc
    exact .inl ⟨bf, bk, e, clo_put b fs N i bf bk s w hm hN (by simpa [nameOk] using hk.1) h1.2 h2.2⟩
  | move a' b' i =>
    obtain ⟨ba, bb, s, t, e, h1, h2, rfl, rfl⟩ := hc
    exact .inr (.inl ⟨ba, bb, e, clo_move b fs N i ba bb s t w hm hN (by simpa [nameOk] using hk.1) (by simpa [nameOk] using hk.2.1) ho h1.2 h2.2⟩)
  | del a =>
    obtain ⟨ba, s, e, h1, rfl⟩ := hc
    exact .inr (.inr ⟨ba, e, clo_del b fs N ba s w hm (by simpa [nameOk, chOk] using hk) h1.2⟩)

theorem c6 {w : World} {p : Nat} {st : St} {g : Ghost} (h : w.heap[p]? = some (.cells (cellsOf st g) 60 (0, 0))) :
    w.cell? ⟨p, 0, none⟩ = some (.int .i64 st.room) ∧ w.cell? ⟨p, 1, none⟩ = some (.bool (!st.dead)) ∧ w.cell? ⟨p, 2, none⟩ = some (.int .i64 g.fv) ∧ w.cell? ⟨p, 3, none⟩ = some (.map (some g.bn)) ∧
    w.cell? ⟨p, 4, none⟩ = some (.map (some g.bl)) ∧ w.cell? ⟨p, 5, none⟩ = some g.cv ∧ ∀ o, w.frozen? ⟨p, o, none⟩ = false := by
  refine ⟨?_, ?_, ?_, ?_, ?_, ?_, fun o => Lib.frozen_of_heap h o⟩ <;> (rw [Lib.cell_of_heap h]; rfl)

theorem set6 {w : World} {p o : Nat} {c : Array Value} {v : Value} (h : w.heap[p]? = some (.cells c 60 (0, 0))) : (w.setCell ⟨p, o, none⟩ v).heap[p]? = some (.cells (c.setIfInBounds o v) 60 (0, 0)) := by
  simp [World.setCell, Array.getElem?_modify, h]

/-- The changes, with one more behind them. -/
theorem chs_snoc {w w' : World} {S T : Nat → Prop} {fs : List Nat} {C : List Chg} {cv v' : Value} {cvs : List Value} {c : Chg} {cl : Value} (h : ChsAt w S fs C cv cvs) (hST : ∀ b, S b → T b) (hc : ChAt w' T fs c cl)
    (hrow : w'.ownsRow 0 79 1 v' (C.length + 1) (cvs ++ [cl])) (hv' : v'.ownBlock = cv.ownBlock ∨ ∃ b, v'.ownBlock = some b ∧ T b)
    (hk : ∀ b c T, S b → w.heap[b]? = some (.cells c T (0, 0)) → (T = 61 ∨ T = 9) → w'.heap[b]? = w.heap[b]?) : ChsAt w' T fs (C ++ [c]) v' (cvs ++ [cl]) := by
  refine ⟨by simpa using hrow, ?_, ?_⟩
  · intro j d hj
    have hl : cvs.length = C.length := by simpa using h.row.1
    rcases Nat.lt_or_ge j C.length with h1 | h1
    · rw [List.getElem?_append_left h1] at hj
      obtain ⟨v, e1, e2⟩ := h.ch j d hj
      exact ⟨v, by rw [List.getElem?_append_left (by omega)]; exact e1, (e2.keptB fun b x T hT hb => hk b _ T hb.1 hb.2 hT).mono hST⟩
    · have hi := (List.getElem?_eq_some_iff.1 hj).1
      simp at hi
      obtain rfl : j = C.length := by omega
      rw [List.getElem?_concat_length] at hj
      cases hj
      exact ⟨cl, by rw [← hl, List.getElem?_concat_length], hc⟩
  · intro b hb
    rcases hv' with e | ⟨b', e, hT⟩
    · rw [e] at hb; exact hST b (h.s_c b hb)
    · rw [e] at hb; cases hb; exact hT

theorem cell_new (w : World) (o : Obj) : (w.alloc o).heap[w.heap.size]? = some o := by
  show (w.heap.push o)[w.heap.size]? = _
  simp

theorem files_keptB {w w' : World} {S : Nat → Prop} {F : List FileS} {fs : List Nat} {rows : List (Option Nat)} (h : FilesAt w S F fs rows)
    (hk : ∀ b c T z, S b → w.heap[b]? = some (.cells c T z) → (T = 66 ∨ T = 5) → w'.heap[b]? = w.heap[b]?) : FilesAt w' S F fs rows :=
  by
  refine { h with file := fun i f hf => ?_ }
  have hi := (List.getElem?_eq_some_iff.1 hf).1
  have h0 := h.file i f hf
  have h1 := h0
  obtain ⟨p, v, _, hb, hv⟩ := h1
  exact h0.kept (hk _ _ _ _ (h.s_f i hi) hb (.inl rfl)) fun g hg => let ⟨c, fz, hc⟩ := hv.type g hg; hk g _ _ _ (h.s_r i g hg) hc (.inr rfl)

theorem map_kept_cells {w w' : World} {b : Nat} {fs : List Nat} {N : Nms} (h : MapAt w b fs N) (hk : ∀ es clock, w.heap[b]? = some (.map es clock) → w'.heap[b]? = w.heap[b]?) : MapAt w' b fs N := by
  have h0 := h
  obtain ⟨es, clock, hb, _⟩ := h
  exact h0.kept (hk es clock hb)

set_option maxHeartbeats 1600000 in
set_option maxRecDepth 100000 in
/-- (*Disk).change. -/
theorem change_any (S : Nat → Prop) (p : Nat) (st : St) (g : Ghost) (c : Chg) (cl : Value) (w : World) (h : DiskG w S p st g) (hc : ChAt w S g.fs c cl) (ho : okC st.N c) (hk : chOk st.F.length c) (hC : st.C.length ≤ 1000000000) :
    Calls Try.prog 41 #[.pointer (some ⟨p, 0, none⟩), cl] w fun e w' => e = .returned (.tuple #[]) ∧ StepF S p (chg st c) g.fs w w' := by
  obtain ⟨i0, hi, hz0, hz1, hz2⟩ := info_parts infoF
  have hlenN : st.N.length ≤ 1000000000 := by have := h.fine.nmN.len; omega
  have hcl := clo_at hc ho hk h.now hlenN
  obtain ⟨k0, k1, k2, k3, k4, k5, kf⟩ := c6 h.cell
  have HD := Lib.hid h
  have HC := Lib.hid hc
  have HO := Lib.hid ho
  have HK := Lib.hid hk
  -- behind the call of the function value
  have hfin : ∀ w1 v' w2, MapAt w1 g.bn g.fs (appC st.N c) → w.grownBy w1 (some g.bn) → w2.ownsRow 0 79 1 v' (st.C.length + 1) (g.cvs ++ [cl]) → (w1.alloc (.cells #[cl] 79 (0, 0))).grownBy w2 g.cv.ownBlock →
      (v'.ownBlock = g.cv.ownBlock ∨ v'.ownBlock = some (w1.heap.size + 1)) → StepF S p (chg st c) g.fs w (w2.setCell ⟨p, 5, none⟩ v') := by
    intro w1 v' w2 hm1 hg1 hrow hg2 hv'
    have h := HD.out
    have hpl := h.lt p h.s_p
    have hsz1 := hg1.size
    have hsz2 := hg2.size
    simp at hsz2
    have hpn := ne_of_map h.now h.cell
    have hcvp : g.cv.ownBlock ≠ some p := by
      intro e
      rcases h.chs.row.2 with ⟨hv, _⟩ | ⟨gb, cap, cur, hv, _, hg, _⟩
      · rw [hv] at e; cases e
      · rw [hv] at e; cases e; rw [h.cell] at hg; simp at hg
    have hcvT : ∀ b, g.cv.ownBlock = some b → ∃ cur, w.heap[b]? = some (.cells cur 79 (0, 0)) := by
      intro b e
      rcases h.chs.row.2 with ⟨hv, _⟩ | ⟨gb, cap, cur, hv, _, hg, _⟩
      · rw [hv] at e; cases e
      · rw [hv] at e; cases e; exact ⟨_, hg⟩
    -- all but three blocks
    have hkeep : ∀ b, b < w.heap.size → b ≠ g.bn → g.cv.ownBlock ≠ some b → b ≠ p → (w2.setCell ⟨p, 5, none⟩ v').heap[b]? = w.heap[b]? := by
      intro b hb h1 h2 h3
      rw [Below.heap_setCell _ _ _ _ h3, hg2.block b (by simp; omega) (fun e => h2 e.symm), Below.heap_alloc _ _ _ (by omega), hg1.block b hb (fun e => h1 (Option.some.inj e))]
    have hup : Upon S w (w2.setCell ⟨p, 5, none⟩ v') :=
      ((((Upon.refl S w).grown hg1 (fun k e => .inl (by cases e; exact h.s_n))).alloc _).grown hg2 (fun k e => .inl (h.chs.s_c k e))).setCell (p := ⟨p, 5, none⟩) (.inl h.s_p) _
    have hlt2 : ∀ b, v'.ownBlock = some b → b < w2.heap.size := fun b hb => (hrow.lt b hb).2
    have hcellp : (w2.setCell ⟨p, 5, none⟩ v').heap[p]? = some (.cells (cellsOf (chg st c) { g with cv := v', cvs := g.cvs ++ [cl] }) 60 (0, 0)) := by
      rw [set6 (c := cellsOf st g) (by rw [hg2.block p (by simp; omega) (fun e => hcvp e.symm), Below.heap_alloc _ _ _ (by omega), hg1.block p hpl (fun e => hpn (Option.some.inj e))]; exact h.cell)]
      rfl
    have hrow2 : (w2.setCell ⟨p, 5, none⟩ v').ownsRow 0 79 1 v' (st.C.length + 1) (g.cvs ++ [cl]) := ownsRow_kept hrow fun b hb => Below.heap_setCell _ _ _ _ (by
      rintro rfl
      rcases hv' with e | e
      · rw [e] at hb; exact hcvp hb
      · rw [e] at hb; cases hb; omega)
    have hbn2 : (w2.setCell ⟨p, 5, none⟩ v').heap[g.bn]? = w1.heap[g.bn]? := by
      have hbl := h.now.lt
      rw [Below.heap_setCell _ _ _ _ (fun e => hpn e.symm), hg2.block g.bn (by simp; omega) (fun e => by obtain ⟨cur, hh⟩ := hcvT _ e.symm; exact ne_of_map h.now hh rfl), Below.heap_alloc _ _ _ (by omega)]
    have hcells : ∀ b c T z, S b → w.heap[b]? = some (.cells c T z) → T ≠ 60 → T ≠ 79 → (w2.setCell ⟨p, 5, none⟩ v').heap[b]? = w.heap[b]? := by
      intro b c T z hb hh h1 h2
      refine hkeep b (h.lt b hb) (ne_of_map h.now hh) ?_ ?_
      · intro e; obtain ⟨cur, hh2⟩ := hcvT b e; rw [hh] at hh2; simp at hh2; exact h2 hh2.2.1
      · rintro rfl; rw [h.cell] at hh; simp at hh; exact h1 hh.2.1.symm
    refine ⟨⟨more S w (w2.setCell ⟨p, 5, none⟩ v'), { g with cv := v', cvs := g.cvs ++ [cl] }, ?_, rfl, fun b hb => .inl hb, more_of⟩, hup, fun b c T z hh hT => ?_⟩
    case refine_2 =>
      by_cases hS : S b
      · exact hcells b c T z hS hh (by rintro rfl; rcases hT with e | e <;> cases e) (by rintro rfl; rcases hT with e | e <;> cases e)
      · exact hup.block b (Array.getElem?_eq_some_iff.1 hh).1 hS
    exact {
      fine := h.fine.chg HO.out HK.out
      cell := hcellp
      fuse := h.fuse
      wf := h.wf
      wr := h.wr
      now := hm1.kept hbn2
      last := map_kept_cells h.last fun es clock hh => hkeep _ h.last.lt h.two.symm (fun e => by obtain ⟨cur, h2⟩ := hcvT _ e; rw [hh] at h2; cases h2) (fun e => by rw [e, h.cell] at hh; cases hh)
      two := h.two
      files := (files_keptB h.files fun b c T z hb hh hT => hcells b c T z hb hh (by rintro rfl; rcases hT with e | e <;> cases e) (by rintro rfl; rcases hT with e | e <;> cases e)).mono fun b hb => .inl hb
      chs := chs_snoc h.chs (fun b hb => .inl hb) ((HC.out.keptB fun b x T hT hb => hcells b _ T _ hb.1 hb.2 (by rintro rfl; rcases hT with e | e <;> cases e) (by rintro rfl; rcases hT with e | e <;> cases e)).mono fun b hb => .inl hb) hrow2
        (hv'.elim .inl fun e => .inr ⟨_, e,   .inr ⟨by omega, by have := hlt2 _ e; simpa [World.setCell] using this⟩⟩)
        (fun b c T hb hh hT => hcells b c T _ hb hh (by rintro rfl; rcases hT with e | e <;> cases e) (by rintro rfl; rcases hT with e | e <;> cases e))
      s_p := .inl h.s_p
      s_n := .inl h.s_n
      s_l := .inl h.s_l
      lt := fun b hb => hb.elim (fun hb => by have := h.lt b hb; simp [World.setCell]; omega) (fun hb => hb.2) }
  have HF := Lib.hid hfin
  have hown0 := h.chs.row
  have hnb := Lib.hid (ne_of_map h.now h.cell)
  have hpl := Lib.hid (h.lt p h.s_p)
  have hcvb : ∀ k, g.cv.ownBlock = some k → k < w.heap.size ∧ k ≠ g.bn := by
    intro b e
    rcases h.chs.row.2 with ⟨hv, _⟩ | ⟨gb, cap, cur, hv, _, hg, _⟩
    · rw [hv] at e; cases e
    · rw [hv] at e; cases e; exact ⟨(Array.getElem?_eq_some_iff.1 hg).1, ne_of_map h.now hg⟩
  have hcvp : g.cv.ownBlock ≠ some p := by
    intro e
    rcases h.chs.row.2 with ⟨hv, _⟩ | ⟨gb, cap, cur, hv, _, hg, _⟩
    · rw [hv] at e; cases e
    · rw [hv] at e; cases e; rw [h.cell] at hg; simp at hg
  have HB := Lib.hid hcvb
  have HP := Lib.hid hcvp
  have HW := Lib.hid hown0
  have HE := Lib.hid h.cell
  clear h hc ho hk hlenN hfin hown0 hcvb hcvp k0 k1 k2 k4 k5 kf
  rcases hcl with ⟨bf, bk, rfl, hcl⟩ | ⟨bf, bk, rfl, hcl⟩ | ⟨bf, rfl, hcl⟩
  all_goals
    replace hcl := Lib.hid hcl
    go_enter Try.func41, Try.ntmps41
    go_wp2_with fail
    refine hcl.out.mono ?_
    rintro e w1 ⟨rfl, hm1, hg1⟩
    have hp1 : w1.heap[p]? = some (.cells (cellsOf st g) 60 (0, 0)) := (hg1.block p hpl.out (fun e => hnb.out (Option.some.inj e))).trans HE.out
    obtain ⟨-, -, -, -, -, q5, -⟩ := c6 hp1
    have hown1 := (ownsRow_kept HW.out fun b hb => hg1.block b (HB.out b hb).1 (fun e => (HB.out b hb).2 (Option.some.inj e)))
    have HP1 := Lib.hid hp1
    have HM1 := Lib.hid hm1
    have HG1 := Lib.hid hg1
    have HO1 := Lib.hid hown1
    have hp1l := lt_of_block hp1
    clear hp1 hm1 hg1 hown1 k3
    go_wp2_with (at_builtin; refine wpList_append_own_at _ rfl _ _ 58 rfl 0 79 i0 .nilFunc 1 8 Try.underlying58 hi hz0 hz1 hz2 rfl (by decide) _ _ _ rfl (HO1.out.alloc _) ⟨w1.heap.size, 0, none⟩ 1 1 [_] rfl rfl (cell_one_new _ _ _) (by simp [Value.oneCell']) (by unfold maxLen; omega) (by omega) (by simp) ?_)
    intro v' w2 hrow hg2 _ hv'
    have hp2 : w2.heap[p]? = some (.cells (cellsOf st g) 60 (0, 0)) := by rw [hg2.block p (by simp; omega) (fun e => HP.out e.symm), Below.heap_alloc _ _ _ hp1l]; exact HP1.out
    obtain ⟨-, -, -, -, -, r5, rf⟩ := c6 hp2
    have r55 := rf 5
    have HX := Lib.hid (HF.out w1 v' w2 HM1.out HG1.out hrow hg2 hv')
    obtain ⟨a', n', c', rfl⟩ : ∃ a n c, v' = .slice a n c := by
      rcases hrow.2 with ⟨e, _⟩ | ⟨_, _, _, e, _⟩
      · exact ⟨_, _, _, e⟩
      · exact ⟨_, _, _, e⟩
    clear hrow hg2 hv' hp2 rf q5
    go_wp2
    go_end0
    exact ⟨rfl, HX.out⟩
end Dsk
end Go.Proofs.Ytfpphahdbhelcaa
