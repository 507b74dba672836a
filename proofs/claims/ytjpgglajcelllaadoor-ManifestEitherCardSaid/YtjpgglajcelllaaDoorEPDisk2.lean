/- Parts, put together: DiskClo, DiskOne, DiskTwo, DiskUsed, DiskSettle, DiskDo. -/
import Derived.Test.YtjpgglajcelllaaDoorEPDisk1
import Derived.Maps.OwnSet
import Derived.Outline
import Derived.Carry
import Derived.Sort.MapsRangeIn
import Derived.Deep.QuietTactic
import Derived.BigQuiet
set_option maxRecDepth 100000
/- What the function values do that change the disk's names (layer 4), what (*Disk).change does with one, and (*Disk).settle with all of them. -/
section
namespace Go.Proofs.YtjpgglajcelllaaDoor
open Go.RowKit
namespace Dsk
open Go.Maps
theorem wpList_look_some (w : World) {ops : Array Oper} {rest : List Oper} {o : Oper} {a : Act} {Q : Exit → Act → World → Prop}
    (hg : o.guard = none) (m x : Operand) (hop : o.op = Op.lookup 85 m x false) (b : Nat) (fs : List Nat) (N : Nms)
    (hm : a.eval m = .map (some b)) (h : MapAt w b fs N) (k : ByteArray) (hx : a.eval x = .string k) (hk : k.size ≤ maxLen) (i : Nat) (hi : lookN N k.data.toList = some i)
    (hK : wpList Tryd.prog ops Q rest (a.put o.dst (.pointer (some ⟨blk fs i, 0, none⟩))) w) :
    wpList Tryd.prog ops Q (o :: rest) a w := wpList_look w hg m x hop b fs N hm h k hx hk (by rw [hi]; exact hK)
theorem wpList_look_none (w : World) {ops : Array Oper} {rest : List Oper} {o : Oper} {a : Act} {Q : Exit → Act → World → Prop}
    (hg : o.guard = none) (m x : Operand) (hop : o.op = Op.lookup 85 m x false) (b : Nat) (fs : List Nat) (N : Nms)
    (hm : a.eval m = .map (some b)) (h : MapAt w b fs N) (k : ByteArray) (hx : a.eval x = .string k) (hk : k.size ≤ maxLen) (hi : lookN N k.data.toList = none)
    (hK : wpList Tryd.prog ops Q rest (a.put o.dst (.pointer none)) w) :
    wpList Tryd.prog ops Q (o :: rest) a w := wpList_look w hg m x hop b fs N hm h k hx hk (by rw [hi]; exact hK)
/-- What such a function value leaves. -/
def CloPost (b : Nat) (fs : List Nat) (N : Nms) (w : World) (e : Ending) (w' : World) : Prop := e = .returned (.tuple #[]) ∧ MapAt w' b fs N ∧ w.grownBy w' (some b)
theorem ne_of_map {w : World} {b c : Nat} {fs : List Nat} {N : Nms} {x : Array Value} {T : TypeId} {z : Nat × Nat} (h : MapAt w b fs N) (hc : w.heap[c]? = some (.cells x T z)) : c ≠ b := by
  obtain ⟨es, clock, hb, _⟩ := h
  rintro rfl
  rw [hb] at hc; cases hc
set_option maxHeartbeats 800000 in
theorem clo_put (b : Nat) (fs : List Nat) (N : Nms) (i bf bk : Nat) (s : ByteArray) (w : World) (hm : MapAt w b fs N) (hN : N.length ≤ 1000000000) (hs : s.size ≤ 32)
    (hf : w.heap[bf]? = some (.cells #[.pointer (some ⟨blk fs i, 0, none⟩)] 96 (0, 0))) (hk : w.heap[bk]? = some (.cells #[.string s] 9 (0, 0))) :
    Calls Tryd.prog 64 #[.map (some b), .pointer (some ⟨bf, 0, none⟩), .pointer (some ⟨bk, 0, none⟩)] w (CloPost b fs (putN N s.data.toList i) w) := by
  have cf := cell_of_one hf
  have ck := cell_of_one hk
  have HM := Lib.hid hm
  clear hf hk hm
  go_enter Tryd.func64, Tryd.ntmps64
  go_wp2_with (at_mapUpdate; refine wpList_putN _ rfl _ _ _ rfl b fs N rfl HM.out (by unfold maxLen; omega) s rfl (by unfold maxLen; omega) i rfl ?_)
  intro w1 hm1 hg1
  replace hm1 := Lib.hid hm1
  replace hg1 := Lib.hid hg1
  clear cf ck
  go_wp2
  go_end0
  exact ⟨rfl, hm1.out, hg1.out⟩
set_option maxHeartbeats 800000 in
theorem clo_del (b : Nat) (fs : List Nat) (N : Nms) (ba : Nat) (s : ByteArray) (w : World) (hm : MapAt w b fs N) (hs : s.size ≤ 32)
    (hk : w.heap[ba]? = some (.cells #[.string s] 9 (0, 0))) :
    Calls Tryd.prog 97 #[.map (some b), .pointer (some ⟨ba, 0, none⟩)] w (CloPost b fs (delN N s.data.toList) w) := by
  have ck := cell_of_one hk
  have HM := Lib.hid hm
  clear hk hm
  go_enter Tryd.func97, Tryd.ntmps97
  go_wp2_with (at_delete; refine wpList_delN _ rfl _ _ rfl b fs N rfl HM.out s rfl (by unfold maxLen; omega) ?_)
  intro w1 hm1 hg1
  replace hm1 := Lib.hid hm1
  replace hg1 := Lib.hid hg1
  clear ck
  go_wp2
  go_end0
  exact ⟨rfl, hm1.out, hg1.out⟩
set_option maxHeartbeats 1600000 in
set_option maxRecDepth 100000 in
theorem clo_move (b : Nat) (fs : List Nat) (N : Nms) (i ba bb : Nat) (s t : ByteArray) (w : World) (hm : MapAt w b fs N) (hN : N.length ≤ 1000000000) (hs : s.size ≤ 32) (ht : t.size ≤ 32) (hi : lookN N s.data.toList = some i)
    (ha : w.heap[ba]? = some (.cells #[.string s] 9 (0, 0))) (hb : w.heap[bb]? = some (.cells #[.string t] 9 (0, 0))) :
    Calls Tryd.prog 83 #[.map (some b), .pointer (some ⟨ba, 0, none⟩), .pointer (some ⟨bb, 0, none⟩)] w (CloPost b fs (putN (delN N s.data.toList) t.data.toList i) w) := by
  have ca := cell_of_one ha
  have HM := Lib.hid hm
  have nb := ne_of_map hm hb
  have lb := lt_of_block hb
  have HB := Lib.hid hb
  have HI := Lib.hid hi
  have NB := Lib.hid nb
  clear ha hb hm hi nb
  go_enter Tryd.func83, Tryd.ntmps83
  have hs9 : s.size ≤ maxLen := by unfold maxLen; omega
  go_wp2_with (first
    | (at_lookup; refine wpList_look_some _ rfl _ _ rfl b fs N rfl HM.out s rfl hs9 i HI.out ?_)
    | (at_delete; refine wpList_delN _ rfl _ _ rfl b fs N rfl HM.out s rfl hs9 ?_))
  intro w1 hm1 hg1
  have hb1 : w1.heap[bb]? = some (.cells #[.string t] 9 (0, 0)) := (hg1.block bb lb (fun e => NB.out (Option.some.inj e))).trans HB.out
  have cb := cell_of_one hb1
  replace hm1 := Lib.hid hm1
  replace hg1 := Lib.hid hg1
  have HL := Lib.hid (len_del_le N s.data.toList)
  clear ca hb1
  go_wp2_with (at_mapUpdate; refine wpList_putN _ rfl _ _ _ rfl b fs (delN N s.data.toList) rfl hm1.out (by have := HL.out; unfold maxLen; omega) t rfl (by unfold maxLen; omega) i rfl ?_)
  intro w2 hm2 hg2
  replace hm2 := Lib.hid hm2
  have HG := Lib.hid (show w.grownBy w2 (some b) from hg1.out.andThen hg2 (fun j hj => Or.inr hj))
  clear cb hg2
  go_wp2
  go_end0
  exact ⟨rfl, hm2.out, HG.out⟩
theorem infoF : (Tryd.prog.info? 110).map (fun i => (i.zero, i.size, i.bytes)) = some (some .nilFunc, 1, 8) := by kernel_rfl
/-- Where the change's function value lies, and what it leaves of a map of names. -/
theorem clo_at {w : World} {S : Nat → Prop} {fs : List Nat} {N : Nms} {c : Chg} {cl : Value} {b n : Nat} (hc : ChAt w S fs c cl) (ho : okC N c) (hk : chOk n c) (hm : MapAt w b fs N) (hN : N.length ≤ 1000000000) :
    (∃ bf bk, cl = .func (.func 64) #[] #[.pointer (some ⟨bf, 0, none⟩), .pointer (some ⟨bk, 0, none⟩)] ∧ Calls Tryd.prog 64 #[.map (some b), .pointer (some ⟨bf, 0, none⟩), .pointer (some ⟨bk, 0, none⟩)] w (CloPost b fs (appC N c) w)) ∨
    (∃ ba bb, cl = .func (.func 83) #[] #[.pointer (some ⟨ba, 0, none⟩), .pointer (some ⟨bb, 0, none⟩)] ∧ Calls Tryd.prog 83 #[.map (some b), .pointer (some ⟨ba, 0, none⟩), .pointer (some ⟨bb, 0, none⟩)] w (CloPost b fs (appC N c) w)) ∨
    (∃ ba, cl = .func (.func 97) #[] #[.pointer (some ⟨ba, 0, none⟩)] ∧ Calls Tryd.prog 97 #[.map (some b), .pointer (some ⟨ba, 0, none⟩)] w (CloPost b fs (appC N c) w)) := by
  cases c with
  | put k i =>
    obtain ⟨bf, bk, s, e, h1, h2, rfl⟩ := hc
    exact .inl ⟨bf, bk, e, clo_put b fs N i bf bk s w hm hN (by simpa using hk.1.2) h1.2 h2.2⟩
  | move a' b' i =>
    obtain ⟨ba, bb, s, t, e, h1, h2, rfl, rfl⟩ := hc
    exact .inr (.inl ⟨ba, bb, e, clo_move b fs N i ba bb s t w hm hN (by simpa using hk.1.2) (by simpa using hk.2.1.2) ho h1.2 h2.2⟩)
  | del a =>
    obtain ⟨ba, s, e, h1, rfl⟩ := hc
    exact .inr (.inr ⟨ba, e, clo_del b fs N ba s w hm (by simpa using (show nameOk _ from hk).2) h1.2⟩)
theorem c6 {w : World} {p : Nat} {st : St} {g : Ghost} (h : w.heap[p]? = some (.cells (cellsOf st g) 88 (0, 0))) :
    w.cell? ⟨p, 0, none⟩ = some (.int .i64 st.room) ∧ w.cell? ⟨p, 1, none⟩ = some (.bool (!st.dead)) ∧ w.cell? ⟨p, 2, none⟩ = some (.int .i64 g.fv) ∧ w.cell? ⟨p, 3, none⟩ = some (.map (some g.bn)) ∧
    w.cell? ⟨p, 4, none⟩ = some (.map (some g.bl)) ∧ w.cell? ⟨p, 5, none⟩ = some g.cv ∧ ∀ o, w.frozen? ⟨p, o, none⟩ = false := by
  refine ⟨?_, ?_, ?_, ?_, ?_, ?_, fun o => Lib.frozen_of_heap h o⟩ <;> (rw [Lib.cell_of_heap h]; rfl)
theorem set6 {w : World} {p o : Nat} {c : Array Value} {v : Value} (h : w.heap[p]? = some (.cells c 88 (0, 0))) : (w.setCell ⟨p, o, none⟩ v).heap[p]? = some (.cells (c.setIfInBounds o v) 88 (0, 0)) := by
  simp [World.setCell, Array.getElem?_modify, h]
/-- The changes, with one more behind them. -/
theorem chs_snoc {w w' : World} {S T : Nat → Prop} {fs : List Nat} {C : List Chg} {cv v' : Value} {cvs : List Value} {c : Chg} {cl : Value} (h : ChsAt w S fs C cv cvs) (hST : ∀ b, S b → T b) (hc : ChAt w' T fs c cl)
    (hrow : w'.ownsRow 0 110 1 v' (C.length + 1) (cvs ++ [cl])) (hv' : v'.ownBlock = cv.ownBlock ∨ ∃ b, v'.ownBlock = some b ∧ T b)
    (hk : ∀ b c T, S b → w.heap[b]? = some (.cells c T (0, 0)) → (T = 96 ∨ T = 9) → w'.heap[b]? = w.heap[b]?) : ChsAt w' T fs (C ++ [c]) v' (cvs ++ [cl]) := by
  refine ⟨by simpa using hrow, ?_, ?_⟩
  · intro j d hj
    have hl : cvs.length = C.length := by simpa using h.row.1
    rcases Nat.lt_or_ge j C.length with h1 | h1
    · rw [List.getElem?_append_left h1] at hj
      obtain ⟨v, e1, e2⟩ := h.ch j d hj
      exact ⟨v, by rw [List.getElem?_append_left (by omega)]; exact e1, (e2.keptB fun b x T hT hb => hk b _ T hb.1 hb.2 hT).mono hST⟩
    · have hi := (List.getElem?_eq_some_iff.1 hj).1
      simp at hi
      obtain rfl : j = C.length := by omega
      rw [List.getElem?_concat_length] at hj
      cases hj
      exact ⟨cl, by rw [← hl, List.getElem?_concat_length], hc⟩
  · intro b hb
    rcases hv' with e | ⟨b', e, hT⟩
    · rw [e] at hb; exact hST b (h.s_c b hb)
    · rw [e] at hb; cases hb; exact hT
theorem files_keptB {w w' : World} {S : Nat → Prop} {F : List FileS} {fs : List Nat} {rows : List (Option Nat)} (h : FilesAt w S F fs rows)
    (hk : ∀ b c T z, S b → w.heap[b]? = some (.cells c T z) → (T = 102 ∨ T = 5) → w'.heap[b]? = w.heap[b]?) : FilesAt w' S F fs rows :=
  by
  refine { h with file := fun i f hf => ?_ }
  have hi := (List.getElem?_eq_some_iff.1 hf).1
  have h0 := h.file i f hf
  have h1 := h0
  obtain ⟨p, v, _, hb, hv⟩ := h1
  exact h0.kept (hk _ _ _ _ (h.s_f i hi) hb (.inl rfl)) fun g hg => let ⟨c, fz, hc⟩ := hv.type g hg; hk g _ _ _ (h.s_r i g hg) hc (.inr rfl)
theorem map_kept_cells {w w' : World} {b : Nat} {fs : List Nat} {N : Nms} (h : MapAt w b fs N) (hk : ∀ es clock, w.heap[b]? = some (.map es clock) → w'.heap[b]? = w.heap[b]?) : MapAt w' b fs N := by
  have h0 := h
  obtain ⟨es, clock, hb, _⟩ := h
  exact h0.kept (hk es clock hb)
set_option maxHeartbeats 1600000 in
set_option maxRecDepth 100000 in
/-- (*Disk).change. -/
theorem change_any (S : Nat → Prop) (p : Nat) (st : St) (g : Ghost) (c : Chg) (cl : Value) (w : World) (h : DiskG w S p st g) (hc : ChAt w S g.fs c cl) (ho : okC st.N c) (hk : chOk st.F.length c) (hC : st.C.length ≤ 1000000000) :
    Calls Tryd.prog 63 #[.pointer (some ⟨p, 0, none⟩), cl] w fun e w' => e = .returned (.tuple #[]) ∧ StepF S p (chg st c) g.fs w w' := by
  obtain ⟨i0, hi, hz0, hz1, hz2⟩ := info_parts infoF
  have hlenN : st.N.length ≤ 1000000000 := by have := h.fine.nmN.len; omega
  have hcl := clo_at hc ho hk h.now hlenN
  obtain ⟨k0, k1, k2, k3, k4, k5, kf⟩ := c6 h.cell
  have HD := Lib.hid h
  have HC := Lib.hid hc
  have HO := Lib.hid ho
  have HK := Lib.hid hk
  -- behind the call of the function value
  have hfin : ∀ w1 v' w2, MapAt w1 g.bn g.fs (appC st.N c) → w.grownBy w1 (some g.bn) → w2.ownsRow 0 110 1 v' (st.C.length + 1) (g.cvs ++ [cl]) → (w1.alloc (.cells #[cl] 110 (0, 0))).grownBy w2 g.cv.ownBlock →
      (v'.ownBlock = g.cv.ownBlock ∨ v'.ownBlock = some (w1.heap.size + 1)) → StepF S p (chg st c) g.fs w (w2.setCell ⟨p, 5, none⟩ v') := by
    intro w1 v' w2 hm1 hg1 hrow hg2 hv'
    have h := HD.out
    have hpl := h.lt p h.s_p
    have hsz1 := hg1.size
    have hsz2 := hg2.size
    simp at hsz2
    have hpn := ne_of_map h.now h.cell
    have hcvp : g.cv.ownBlock ≠ some p := by
      intro e
      rcases h.chs.row.2 with ⟨hv, _⟩ | ⟨gb, cap, cur, hv, _, hg, _⟩
      · rw [hv] at e; cases e
      · rw [hv] at e; cases e; rw [h.cell] at hg; simp at hg
    have hcvT : ∀ b, g.cv.ownBlock = some b → ∃ cur, w.heap[b]? = some (.cells cur 110 (0, 0)) := by
      intro b e
      rcases h.chs.row.2 with ⟨hv, _⟩ | ⟨gb, cap, cur, hv, _, hg, _⟩
      · rw [hv] at e; cases e
      · rw [hv] at e; cases e; exact ⟨_, hg⟩
    -- all but three blocks
    have hkeep : ∀ b, b < w.heap.size → b ≠ g.bn → g.cv.ownBlock ≠ some b → b ≠ p → (w2.setCell ⟨p, 5, none⟩ v').heap[b]? = w.heap[b]? := by
      intro b hb h1 h2 h3
      rw [Below.heap_setCell _ _ _ _ h3, hg2.block b (by simp; omega) (fun e => h2 e.symm), Below.heap_alloc _ _ _ (by omega), hg1.block b hb (fun e => h1 (Option.some.inj e))]
    have hup : Upon S w (w2.setCell ⟨p, 5, none⟩ v') :=
      ((((Upon.refl S w).grown hg1 (fun k e => .inl (by cases e; exact h.s_n))).alloc _).grown hg2 (fun k e => .inl (h.chs.s_c k e))).setCell (p := ⟨p, 5, none⟩) (.inl h.s_p) _
    have hlt2 : ∀ b, v'.ownBlock = some b → b < w2.heap.size := fun b hb => (hrow.lt b hb).2
    have hcellp : (w2.setCell ⟨p, 5, none⟩ v').heap[p]? = some (.cells (cellsOf (chg st c) { g with cv := v', cvs := g.cvs ++ [cl] }) 88 (0, 0)) := by
      rw [set6 (c := cellsOf st g) (by rw [hg2.block p (by simp; omega) (fun e => hcvp e.symm), Below.heap_alloc _ _ _ (by omega), hg1.block p hpl (fun e => hpn (Option.some.inj e))]; exact h.cell)]
      rfl
    have hrow2 : (w2.setCell ⟨p, 5, none⟩ v').ownsRow 0 110 1 v' (st.C.length + 1) (g.cvs ++ [cl]) := ownsRow_kept hrow fun b hb => Below.heap_setCell _ _ _ _ (by
      rintro rfl
      rcases hv' with e | e
      · rw [e] at hb; exact hcvp hb
      · rw [e] at hb; cases hb; omega)
    have hbn2 : (w2.setCell ⟨p, 5, none⟩ v').heap[g.bn]? = w1.heap[g.bn]? := by
      have hbl := h.now.lt
      rw [Below.heap_setCell _ _ _ _ (fun e => hpn e.symm), hg2.block g.bn (by simp; omega) (fun e => by obtain ⟨cur, hh⟩ := hcvT _ e.symm; exact ne_of_map h.now hh rfl), Below.heap_alloc _ _ _ (by omega)]
    have hcells : ∀ b c T z, S b → w.heap[b]? = some (.cells c T z) → T ≠ 88 → T ≠ 110 → (w2.setCell ⟨p, 5, none⟩ v').heap[b]? = w.heap[b]? := by
      intro b c T z hb hh h1 h2
      refine hkeep b (h.lt b hb) (ne_of_map h.now hh) ?_ ?_
      · intro e; obtain ⟨cur, hh2⟩ := hcvT b e; rw [hh] at hh2; simp at hh2; exact h2 hh2.2.1
      · rintro rfl; rw [h.cell] at hh; simp at hh; exact h1 hh.2.1.symm
    refine ⟨⟨more S w (w2.setCell ⟨p, 5, none⟩ v'), { g with cv := v', cvs := g.cvs ++ [cl] }, ?_, rfl, fun b hb => .inl hb, more_of⟩, hup, fun b c T z hh hT => ?_⟩
    case refine_2 =>
      by_cases hS : S b
      · exact hcells b c T z hS hh (by rintro rfl; rcases hT with e | e <;> cases e) (by rintro rfl; rcases hT with e | e <;> cases e)
      · exact hup.block b (Array.getElem?_eq_some_iff.1 hh).1 hS
    exact {
      fine := h.fine.chg HO.out HK.out
      cell := hcellp
      fuse := h.fuse
      wf := h.wf
      wr := h.wr
      now := hm1.kept hbn2
      last := map_kept_cells h.last fun es clock hh => hkeep _ h.last.lt h.two.symm (fun e => by obtain ⟨cur, h2⟩ := hcvT _ e; rw [hh] at h2; cases h2) (fun e => by rw [e, h.cell] at hh; cases hh)
      two := h.two
      files := (files_keptB h.files fun b c T z hb hh hT => hcells b c T z hb hh (by rintro rfl; rcases hT with e | e <;> cases e) (by rintro rfl; rcases hT with e | e <;> cases e)).mono fun b hb => .inl hb
      chs := chs_snoc h.chs (fun b hb => .inl hb) ((HC.out.keptB fun b x T hT hb => hcells b _ T _ hb.1 hb.2 (by rintro rfl; rcases hT with e | e <;> cases e) (by rintro rfl; rcases hT with e | e <;> cases e)).mono fun b hb => .inl hb) hrow2
        (hv'.elim .inl fun e => .inr ⟨_, e,   .inr ⟨by omega, by have := hlt2 _ e; simpa [World.setCell] using this⟩⟩)
        (fun b c T hb hh hT => hcells b c T _ hb hh (by rintro rfl; rcases hT with e | e <;> cases e) (by rintro rfl; rcases hT with e | e <;> cases e))
      s_p := .inl h.s_p
      s_n := .inl h.s_n
      s_l := .inl h.s_l
      lt := fun b hb => hb.elim (fun hb => by have := h.lt b hb; simp [World.setCell]; omega) (fun hb => hb.2) }
  have HF := Lib.hid hfin
  have hown0 := h.chs.row
  have hnb := Lib.hid (ne_of_map h.now h.cell)
  have hpl := Lib.hid (h.lt p h.s_p)
  have hcvb : ∀ k, g.cv.ownBlock = some k → k < w.heap.size ∧ k ≠ g.bn := by
    intro b e
    rcases h.chs.row.2 with ⟨hv, _⟩ | ⟨gb, cap, cur, hv, _, hg, _⟩
    · rw [hv] at e; cases e
    · rw [hv] at e; cases e; exact ⟨(Array.getElem?_eq_some_iff.1 hg).1, ne_of_map h.now hg⟩
  have hcvp : g.cv.ownBlock ≠ some p := by
    intro e
    rcases h.chs.row.2 with ⟨hv, _⟩ | ⟨gb, cap, cur, hv, _, hg, _⟩
    · rw [hv] at e; cases e
    · rw [hv] at e; cases e; rw [h.cell] at hg; simp at hg
  have HB := Lib.hid hcvb
  have HP := Lib.hid hcvp
  have HW := Lib.hid hown0
  have HE := Lib.hid h.cell
  clear h hc ho hk hlenN hfin hown0 hcvb hcvp k0 k1 k2 k4 k5 kf
  rcases hcl with ⟨bf, bk, rfl, hcl⟩ | ⟨bf, bk, rfl, hcl⟩ | ⟨bf, rfl, hcl⟩
  all_goals
    replace hcl := Lib.hid hcl
    go_enter Tryd.func63, Tryd.ntmps63
    go_wp2_with fail
    refine hcl.out.mono ?_
    rintro e w1 ⟨rfl, hm1, hg1⟩
    have hp1 : w1.heap[p]? = some (.cells (cellsOf st g) 88 (0, 0)) := (hg1.block p hpl.out (fun e => hnb.out (Option.some.inj e))).trans HE.out
    obtain ⟨-, -, -, -, -, q5, -⟩ := c6 hp1
    have hown1 := (ownsRow_kept HW.out fun b hb => hg1.block b (HB.out b hb).1 (fun e => (HB.out b hb).2 (Option.some.inj e)))
    have HP1 := Lib.hid hp1
    have HM1 := Lib.hid hm1
    have HG1 := Lib.hid hg1
    have HO1 := Lib.hid hown1
    have hp1l := lt_of_block hp1
    clear hp1 hm1 hg1 hown1 k3
    go_wp2_with (at_builtin; refine wpList_append_own_at _ rfl _ _ 86 rfl 0 110 i0 .nilFunc 1 8 Tryd.underlying86 hi hz0 hz1 hz2 rfl (by decide) _ _ _ rfl (HO1.out.alloc _) ⟨w1.heap.size, 0, none⟩ 1 1 [_] rfl rfl (cell_one_new _ _ _) (by simp [Value.oneCell']) (by unfold maxLen; omega) (by omega) (by simp) ?_)
    intro v' w2 hrow hg2 _ hv'
    have hp2 : w2.heap[p]? = some (.cells (cellsOf st g) 88 (0, 0)) := by rw [hg2.block p (by simp; omega) (fun e => HP.out e.symm), Below.heap_alloc _ _ _ hp1l]; exact HP1.out
    obtain ⟨-, -, -, -, -, r5, rf⟩ := c6 hp2
    have r55 := rf 5
    have HX := Lib.hid (HF.out w1 v' w2 HM1.out HG1.out hrow hg2 hv')
    obtain ⟨a', n', c', rfl⟩ : ∃ a n c, v' = .slice a n c := by
      rcases hrow.2 with ⟨e, _⟩ | ⟨_, _, _, e, _⟩
      · exact ⟨_, _, _, e⟩
      · exact ⟨_, _, _, e⟩
    clear hrow hg2 hv' hp2 rf q5
    go_wp2
    go_end0
    exact ⟨rfl, HX.out⟩
end Dsk
end Go.Proofs.YtjpgglajcelllaaDoor
end
/- What the disk's small methods do (layer 4): New, write, Fuse, Up, Sync, Read; what a name is. -/
section
namespace Go.Proofs.YtjpgglajcelllaaDoor
open Go.RowKit
namespace Dsk
open Go.Maps
/-- The disk's own cells turn, nothing else. -/
theorem DiskG.turn {w w' : World} {S : Nat → Prop} {p : Nat} {st st' : St} {g : Ghost} {f : Int} (h : DiskG w S p st g) (hp : w'.heap[p]? = some (.cells (cellsOf st' { g with fv := f }) 88 (0, 0)))
    (hk : ∀ b, b ≠ p → w'.heap[b]? = w.heap[b]?) (hs : w.heap.size ≤ w'.heap.size) (hfine : Fine st') (eF : st'.F = st.F) (eN : st'.N = st.N) (eL : st'.L = st.L) (eC : st'.C = st.C) (er : st'.room = st.room)
    (hf : max (-1) f = st'.left) (hw : -9223372036854775808 ≤ f ∧ f ≤ 9223372036854775807) : DiskG w' S p st' { g with fv := f } := by
  have hc : ∀ (b : Nat) c T z, w.heap[b]? = some (Obj.cells c T z) → T ≠ 88 → w'.heap[b]? = w.heap[b]? := fun b c T z hb hT => hk b (by
    rintro rfl; rw [h.cell] at hb; simp at hb; exact hT hb.2.1.symm)
  have hm : ∀ (b : Nat) es clock, w.heap[b]? = some (Obj.map es clock) → w'.heap[b]? = w.heap[b]? := fun b es clock hb => hk b (by rintro rfl; rw [h.cell] at hb; cases hb)
  exact {
    fine := hfine
    cell := hp
    fuse := hf
    wf := hw
    wr := by rw [er]; exact h.wr
    now := by rw [eN]; exact map_kept_cells h.now (hm _)
    last := by rw [eL]; exact map_kept_cells h.last (hm _)
    two := h.two
    files := by rw [eF]; exact files_keptB h.files fun b c T z _ hb hT => hc b c T z hb (by rintro rfl; rcases hT with e | e <;> cases e)
    chs := by rw [eC]; exact h.chs.keptB fun b c T _ hb hT => hc b c T _ hb (by rintro rfl; rcases hT with e | e | e <;> cases e)
    s_p := h.s_p
    s_n := h.s_n
    s_l := h.s_l
    lt := fun b hb => Nat.lt_of_lt_of_le (h.lt b hb) hs }
theorem DiskG.turnStep {w : World} {S : Nat → Prop} {p o : Nat} {st st' : St} {g : Ghost} {f : Int} {v : Value} (h : DiskG w S p st g) (hp : (cellsOf st g).setIfInBounds o v = cellsOf st' { g with fv := f })
    (hfine : Fine st') (eF : st'.F = st.F) (eN : st'.N = st.N) (eL : st'.L = st.L) (eC : st'.C = st.C) (er : st'.room = st.room)
    (hf : max (-1) f = st'.left) (hw : -9223372036854775808 ≤ f ∧ f ≤ 9223372036854775807) : Step S p st' w (w.setCell ⟨p, o, none⟩ v) :=
  ⟨⟨S, ⟨_, h.turn (by rw [set6 h.cell, hp]) (fun b hb => Below.heap_setCell _ _ _ _ hb) (by simp [World.setCell]) hfine eF eN eL eC er hf hw⟩, fun _ h => h, fun _ h => .inl h⟩, (Upon.refl S w).setCell (p := ⟨p, o, none⟩) (.inl h.s_p) v⟩
/-- What becomes of a disk whose file i is written. -/
theorem DiskG.wrote {w w' : World} {S : Nat → Prop} {p : Nat} {st : St} {g : Ghost} (h : DiskG w S p st g) {i : Nat} {f : FileS} (hi : st.F[i]? = some f) {l : Str} {n : Nat} (hw : Wrote (blk g.fs i) (g.rows.getD i none) l n w w')
    {q : FileS → FileS} (hq : q f = ⟨l, n⟩) (hfine : Fine { st with F := st.F.modify i q }) : Step S p { st with F := st.F.modify i q } w w' := by
  obtain ⟨rows', hF⟩ := h.files.wrote hi hw hq
  have hil := (List.getElem?_eq_some_iff.1 hi).1
  have hfile := h.files.file i f hi
  have hu := hw.upon
  have hty : ∀ b, (b = blk g.fs i ∨ some b = g.rows.getD i none) → ∃ c T z, w.heap[b]? = some (.cells c T z) ∧ (T = 102 ∨ T = 5) := by
    intro b hb
    obtain ⟨_, _, _, hbk, hv⟩ := hfile
    rcases hb with rfl | e
    · exact ⟨_, _, _, hbk, .inl rfl⟩
    · obtain ⟨c, fz, hc⟩ := hv.type b e.symm
      exact ⟨_, _, _, hc, .inr rfl⟩
  have hc : ∀ (b : Nat) c T z, S b → w.heap[b]? = some (Obj.cells c T z) → T ≠ 102 → T ≠ 5 → w'.heap[b]? = w.heap[b]? := fun b c T z hS hb h1 h2 => hu.block b (h.lt b hS) (fun e => by
    obtain ⟨c', T', z', hb', hT⟩ := hty b e
    rw [hb] at hb'; cases hb'
    exact hT.elim h1 h2)
  have hm : ∀ (b : Nat) es clock, S b → w.heap[b]? = some (Obj.map es clock) → w'.heap[b]? = w.heap[b]? := fun b es clock hS hb => hu.block b (h.lt b hS) (fun e => by
    obtain ⟨c', T', z', hb', hT⟩ := hty b e
    rw [hb] at hb'; cases hb')
  refine ⟨⟨more S w w', ⟨{ g with rows := rows' }, ?_⟩, fun b hb => .inl hb, more_of⟩, hu.mono fun b _ hb => ?_⟩
  · exact {
      fine := hfine
      cell := (hc p _ _ _ h.s_p h.cell (by intro e; cases e) (by intro e; cases e)).trans h.cell
      fuse := h.fuse
      wf := h.wf
      wr := h.wr
      now := map_kept_cells h.now (hm _ · · h.s_n)
      last := map_kept_cells h.last (hm _ · · h.s_l)
      two := h.two
      files := hF
      chs := (h.chs.keptB fun b c T hS hb hT => hc b c T _ hS hb (by rintro rfl; rcases hT with e | e | e <;> cases e) (by rintro rfl; rcases hT with e | e | e <;> cases e)).mono fun b hb => .inl hb
      s_p := .inl h.s_p
      s_n := .inl h.s_n
      s_l := .inl h.s_l
      lt := fun b hb => hb.elim (fun hb => Nat.lt_of_lt_of_le (h.lt b hb) hu.size) (fun hb => hb.2) }
  · rcases hb with rfl | e
    · exact h.files.s_f i hil
    · exact h.files.s_r i b e.symm
/-- .. as it was. -/
theorem DiskG.wroteSame {w w' : World} {S : Nat → Prop} {p : Nat} {st : St} {g : Ghost} (h : DiskG w S p st g) {i : Nat} {f : FileS} (hi : st.F[i]? = some f) (hw : Wrote (blk g.fs i) (g.rows.getD i none) f.s f.lasts w w') : Step S p st w w' := by
  have e : ({ st with F := st.F.modify i id } : St) = st := by rw [List.modify_id]
  have := h.wrote hi hw (q := id) rfl (by rw [e]; exact h.fine)
  rwa [e] at this
/-! ### New -/
/-- What New leaves. -/
def Made (room : Int) (w : World) (e : Ending) (w' : World) : Prop :=
  ∃ S p, e = .returned (.pointer (some ⟨p, 0, none⟩)) ∧ IsDisk w' S p (new room) ∧ (∀ b, S b → w.heap.size ≤ b) ∧ Upon (fun _ => False) w w'
theorem made_new (room : Int) (hr : -9223372036854775808 ≤ room ∧ room ≤ 9223372036854775807) (w : World) :
    Made room w (.returned (.pointer (some ⟨w.heap.size + 2, 0, none⟩))) (((w.alloc (.map #[] 0)).alloc (.map #[] 0)).alloc (.cells #[.int .i64 room, .bool true, .int .i64 (-1), .map (some w.heap.size), .map (some (w.heap.size + 1)), .slice none 0 0] 88 (0, 0))) := by
  have hu := (((Upon.refl (fun _ => False) w).alloc (.map #[] 0)).alloc (.map #[] 0)).alloc (.cells #[.int .i64 room, .bool true, .int .i64 (-1), .map (some w.heap.size), .map (some (w.heap.size + 1)), .slice none 0 0] 88 (0, 0))
  refine ⟨fun b => w.heap.size ≤ b ∧ b < w.heap.size + 3, w.heap.size + 2, rfl, ⟨⟨w.heap.size, w.heap.size + 1, -1, .slice none 0 0, [], [], []⟩, ?_⟩, fun b hb => hb.1, hu⟩
  have h1 : (w.alloc (.map #[] 0)).heap.size = w.heap.size + 1 := by simp
  have h2 : ((w.alloc (.map #[] 0)).alloc (.map #[] 0)).heap.size = w.heap.size + 2 := by simp
  exact {
    fine := fine_new room
    cell := by have := cell_new ((w.alloc (.map #[] 0)).alloc (.map #[] 0)) (.cells #[.int .i64 room, .bool true, .int .i64 (-1), .map (some w.heap.size), .map (some (w.heap.size + 1)), .slice none 0 0] 88 (0, 0)); rw [h2] at this; exact this
    fuse := rfl
    wf := ⟨by simp only; omega, by simp only; omega⟩
    wr := hr
    now := by
      have h := MapAt.of (fs := []) (N := []) (World.ownsMap_made w Tryd.prog 9 ptrElem)
      exact (h.kept (Below.heap_alloc _ _ _ (by simp))).kept (Below.heap_alloc _ _ _ (by simp; omega))
    last := by
      have h := MapAt.of (fs := []) (N := []) (World.ownsMap_made (w.alloc (.map #[] 0)) Tryd.prog 9 ptrElem)
      rw [h1] at h
      exact h.kept (Below.heap_alloc _ _ _ (by simp))
    two := by simp
    files := ⟨rfl, rfl, fun i f h => by simp [new] at h, fun i j h => by simp [new] at h, fun i j b h => by simp at h, fun i h => by simp [new] at h, fun i b h => by simp at h⟩
    chs := ChsAt.none _ _ _
    s_p := ⟨by omega, by omega⟩
    s_n := ⟨by simp, by simp⟩
    s_l := ⟨by simp, by simp⟩
    lt := fun b hb => by have := hb.2; simp; omega }
set_option maxHeartbeats 800000 in
theorem new_any (room : Int) (hr : -9223372036854775808 ≤ room ∧ room ≤ 9223372036854775807) (w : World) : Calls Tryd.prog 21 #[.int .i64 room] w (Made room w) := by
  have H := Lib.hid (made_new room hr w)
  have hmm := @run_makeMap Tryd.prog
  go_enter Tryd.func21, Tryd.ntmps21
  go_wp2
  go_ret
  exact H.out
/-! ### write, Fuse, Up -/
theorem wr_lemma1 {w : World} {S : Nat → Prop} {p : Nat} {st : St} {g : Ghost} (h : DiskG w S p st g) (h0 : g.fv = 0) : wrB st = false ∧ Step S p (wrS st) w (w.setCell ⟨p, 1, none⟩ (.bool false)) := by
  have hl : st.left = 0 := by have := h.fuse; omega
  have e : wrS st = { st with dead := true } := by unfold wrS; rw [hl]; simp
  refine ⟨by simp [wrB, hl], ?_⟩
  rw [e]
  exact h.turnStep (f := g.fv) rfl { h.fine with } rfl rfl rfl rfl rfl h.fuse h.wf
theorem wr_lemma2 {w : World} {S : Nat → Prop} {p : Nat} {st : St} {g : Ghost} (h : DiskG w S p st g) (hd : st.dead = true) : wrB st = false ∧ Step S p (wrS st) w w := by
  have e : wrS st = st := by unfold wrS; rw [hd]; simp; cases st; simp_all
  refine ⟨by simp [wrB, hd], ?_⟩
  rw [e]
  exact Step.same ⟨g, h⟩
theorem wr_lemma3 {w : World} {S : Nat → Prop} {p : Nat} {st : St} {g : Ghost} (h : DiskG w S p st g) (hd : st.dead = false) (h0 : 0 < g.fv) : wrB st = true ∧ Step S p (wrS st) w (w.setCell ⟨p, 2, none⟩ (.int .i64 (g.fv - 1))) := by
  have hl : st.left = g.fv := by have := h.fuse; omega
  have hb : (st.left == 0) = false := by rw [hl]; simpa using (by omega : g.fv ≠ 0)
  have e : wrS st = { st with left := st.left - 1 } := by unfold wrS; rw [hd, hb]; simp; omega
  refine ⟨by simp [wrB, hd]; omega, ?_⟩
  rw [e]
  have hw := h.wf
  refine h.turnStep (f := g.fv - 1) ?_ { h.fine with left := by simp only; omega } rfl rfl rfl rfl rfl (by simp only; omega) ⟨by omega, by omega⟩
  simp [cellsOf]
theorem wr_lemma4 {w : World} {S : Nat → Prop} {p : Nat} {st : St} {g : Ghost} (h : DiskG w S p st g) (hd : st.dead = false) (h0 : g.fv < 0) : wrB st = true ∧ Step S p (wrS st) w w := by
  have hl : st.left = -1 := by have := h.fuse; omega
  have e : wrS st = st := by unfold wrS; rw [hd, hl]; simp
  refine ⟨by simp [wrB, hd, hl], ?_⟩
  rw [e]
  exact Step.same ⟨g, h⟩
set_option maxHeartbeats 1600000 in
theorem wr_any (S : Nat → Prop) (p : Nat) (st : St) (w : World) (h : IsDisk w S p st) :
    Calls Tryd.prog 60 #[.pointer (some ⟨p, 0, none⟩)] w fun e w' => e = .returned (.bool (wrB st)) ∧ Step S p (wrS st) w w' := by
  obtain ⟨g, h⟩ := h
  obtain ⟨k0, k1, k2, k3, k4, k5, kf⟩ := c6 h.cell
  have kf1 := kf 1
  have kf2 := kf 2
  obtain ⟨w0, w1⟩ := h.wf
  clear k0 k3 k4 k5 kf
  by_cases h0 : g.fv = 0
  · obtain ⟨e, hs⟩ := wr_lemma1 h h0
    rw [e]
    replace hs := Lib.hid hs
    rw [h0] at k2
    clear h e h0 w0 w1
    go_enter Tryd.func60, Tryd.ntmps60
    go_wp2
    go_ret
    exact ⟨rfl, hs.out⟩
  · have h0' : (g.fv == 0) = false := by simpa using h0
    cases hd : st.dead with
    | true =>
      obtain ⟨e, hs⟩ := wr_lemma2 h hd
      rw [e]
      replace hs := Lib.hid hs
      rw [hd] at k1
      simp only [Bool.not_true] at k1
      clear h e hd
      go_enter Tryd.func60, Tryd.ntmps60
      go_wp2
      go_ret
      exact ⟨rfl, hs.out⟩
    | false =>
      rw [hd] at k1
      simp only [Bool.not_false] at k1
      by_cases h1 : 0 < g.fv
      · obtain ⟨e, hs⟩ := wr_lemma3 h hd h1
        rw [e]
        replace hs := Lib.hid hs
        clear h e hd
        go_enter Tryd.func60, Tryd.ntmps60
        go_wp2
        go_ret
        exact ⟨rfl, hs.out⟩
      · obtain ⟨e, hs⟩ := wr_lemma4 h hd (by omega)
        rw [e]
        replace hs := Lib.hid hs
        clear h e hd
        go_enter Tryd.func60, Tryd.ntmps60
        go_wp2
        go_ret
        exact ⟨rfl, hs.out⟩
set_option maxHeartbeats 800000 in
theorem fuse_any (S : Nat → Prop) (p : Nat) (st : St) (n : Int) (hn : -9223372036854775808 ≤ n ∧ n ≤ 9223372036854775807) (w : World) (h : IsDisk w S p st) :
    Calls Tryd.prog 23 #[.pointer (some ⟨p, 0, none⟩), .int .i64 n] w fun e w' => e = .returned (.tuple #[]) ∧ Step S p (fuse st n) w w' := by
  obtain ⟨g, h⟩ := h
  obtain ⟨k0, k1, k2, k3, k4, k5, kf⟩ := c6 h.cell
  have kf2 := kf 2
  clear k0 k3 k4 k5 kf
  cases hd : st.dead with
  | true =>
    have hs := Lib.hid (show Step S p (fuse st n) w w by unfold fuse; rw [hd]; exact Step.same ⟨g, h⟩)
    rw [hd] at k1
    simp only [Bool.not_true] at k1
    clear h hd
    go_enter Tryd.func23, Tryd.ntmps23
    go_wp2
    go_end0
    exact ⟨rfl, hs.out⟩
  | false =>
    have hs := Lib.hid (show Step S p (fuse st n) w (w.setCell ⟨p, 2, none⟩ (.int .i64 n)) by
      have e : fuse st n = { st with left := max (-1) n } := by unfold fuse; rw [hd]; rfl
      rw [e]
      exact h.turnStep (f := n) rfl { h.fine with left := by show -1 ≤ max (-1) n; omega } rfl rfl rfl rfl rfl rfl hn)
    rw [hd] at k1
    simp only [Bool.not_false] at k1
    clear h hd
    go_enter Tryd.func23, Tryd.ntmps23
    go_wp2
    go_end0
    exact ⟨rfl, hs.out⟩
end Dsk
end Go.Proofs.YtjpgglajcelllaaDoor
end
/- What the disk's Sync and Read do (layer 4), and what a name is. -/
section
namespace Go.Proofs.YtjpgglajcelllaaDoor
open Go.RowKit
namespace Dsk
open Go.Maps
/-- From a to b the disk has gone from the blocks S to S'. -/
structure Been (S S' : Nat → Prop) (a b : World) : Prop where
  sub : ∀ x, S x → S' x
  new : ∀ x, S' x → S x ∨ a.heap.size ≤ x
  upon : Upon S a b
theorem Step.get {S : Nat → Prop} {p : Nat} {st : St} {a b : World} (h : Step S p st a b) : ∃ S' g, DiskG b S' p st g ∧ Been S S' a b := by
  obtain ⟨⟨S', ⟨g, h1⟩, h2, h3⟩, hu⟩ := h; exact ⟨S', g, h1, h2, h3, hu⟩
theorem Been.refl (S : Nat → Prop) (a : World) : Been S S a a := ⟨fun _ h => h, fun _ h => .inl h, Upon.refl _ _⟩
theorem Been.step {S S' : Nat → Prop} {p : Nat} {st : St} {a b c : World} (h : Been S S' a b) (k : Step S' p st b c) : Step S p st a c := by
  obtain ⟨⟨S'', k1, k2, k3⟩, ku⟩ := k
  refine ⟨⟨S'', k1, fun x hx => k2 x (h.sub x hx), fun x hx => ?_⟩, ?_⟩
  · rcases k3 x hx with h' | h'
    · exact h.new x h'
    · exact .inr (Nat.le_trans h.upon.size h')
  · refine h.upon.trans' ku fun i hi hs => ?_
    rcases h.new i hs with h' | h'
    · exact h'
    · omega
theorem Been.trans {S S' S'' : Nat → Prop} {a b c : World} (h : Been S S' a b) (k : Been S' S'' b c) : Been S S'' a c := by
  refine ⟨fun x hx => k.sub x (h.sub x hx), fun x hx => ?_, ?_⟩
  · rcases k.new x hx with h' | h'
    · exact h.new x h'
    · exact .inr (Nat.le_trans h.upon.size h')
  · refine h.upon.trans' k.upon fun i hi hs => ?_
    rcases h.new i hs with h' | h'
    · exact h'
    · omega
theorem DiskG.file {w : World} {S : Nat → Prop} {p : Nat} {st : St} {g : Ghost} (h : DiskG w S p st g) {k : Str} {i : Nat} (hi : lookN st.N k = some i) : ∃ f, st.F[i]? = some f ∧ FileAt w (blk g.fs i) (g.rows.getD i none) f.s f.lasts ∧ f.lasts ≤ f.s.length := by
  have hil : i < st.F.length := h.fine.nmN.ins _ (mem_of_look hi)
  exact ⟨_, List.getElem?_eq_getElem hil, h.files.file i _ (List.getElem?_eq_getElem hil), h.fine.lasts _ (List.getElem_mem _)⟩
/-- write, its answer known. -/
theorem wr_is (S : Nat → Prop) (p : Nat) (st : St) (w : World) (h : IsDisk w S p st) {b : Bool} (hb : wrB st = b) :
    Calls Tryd.prog 60 #[.pointer (some ⟨p, 0, none⟩)] w fun e w' => e = .returned (.bool b) ∧ Step S p (wrS st) w w' := by
  subst hb; exact wr_any S p st w h
theorem lasts_file {w : World} {f : Nat} {r : Option Nat} {l : Str} {n : Nat} (h : FileAt w f r l n) (m : Nat) : w.cell? ⟨f, 2, none⟩ = some (.int .i64 (n : Int)) ∧ w.frozen? ⟨f, 2, none⟩ = false ∧ Wrote f r l m w (w.setCell ⟨f, 2, none⟩ (.int .i64 (m : Int))) := by
  have hne := h.ne
  obtain ⟨p, v, hp, hb, hv⟩ := h
  exact ⟨by rw [Lib.cell_of_heap hb]; rfl, Lib.frozen_of_heap hb 2, ⟨r, ⟨p, v, hp, set2' hb, hv.kept fun g hg => Below.heap_setCell _ _ _ _ (fun e => hne (by rw [hg]; exact congrArg some e))⟩, .inl rfl⟩,
    (Upon.refl (fun k => k = f ∨ some k = r) w).setCell (p := ⟨f, 2, none⟩) (.inl (.inl rfl)) _⟩
theorem sync_step {w : World} {S : Nat → Prop} {p : Nat} {st : St} {g : Ghost} (h : DiskG w S p st g) {k : Str} {i : Nat} (hi : lookN st.N k = some i) {f : FileS} (hf : st.F[i]? = some f) {w' : World} (hw : Wrote (blk g.fs i) (g.rows.getD i none) f.s f.s.length w w') : Step S p (syncF st k) w w' := by
  unfold syncF
  rw [hi]
  exact h.wrote hf hw rfl (h.fine.modF i _ fun _ _ => Nat.le_refl _)
set_option maxHeartbeats 1600000 in
theorem sync_any (S : Nat → Prop) (p : Nat) (st : St) (s : ByteArray) (hs : s.size ≤ maxLen) (w : World) (h : IsDisk w S p st) :
    Calls Tryd.prog 48 #[.pointer (some ⟨p, 0, none⟩), .string s] w fun e w' => e = .returned (.int .i64 (syncE st s.data.toList)) ∧ Step S p (syncS st s.data.toList) w w' := by
  cases hb : wrB st with
  | false =>
    have e1 : syncE st s.data.toList = 11 := by simp [syncE, hb]
    have e2 : syncS st s.data.toList = wrS st := by simp [syncS, hb]
    rw [e1, e2]
    have HW := Lib.hid (wr_is S p st w h hb)
    clear h hb e1 e2
    go_enter Tryd.func48, Tryd.ntmps48
    go_wp2_with fail
    refine HW.out.mono ?_
    rintro e w1 ⟨rfl, hs1⟩
    replace hs1 := Lib.hid hs1
    go_wp2
    go_ret
    exact ⟨rfl, hs1.out⟩
  | true =>
    have HW := Lib.hid (wr_is S p st w h hb)
    have e2 : syncS st s.data.toList = syncF (wrS st) s.data.toList := by simp [syncS, hb]
    rw [e2]
    clear h e2
    cases hl : lookN st.N s.data.toList with
    | none =>
      have e1 : syncE st s.data.toList = 12 := by simp [syncE, hb, hl]
      have hl' : lookN (wrS st).N s.data.toList = none := by rw [wrS_N]; exact hl
      have e3 : syncF (wrS st) s.data.toList = wrS st := by unfold syncF; rw [hl']
      rw [e1, e3]
      have HL := Lib.hid hl'
      clear hb hl hl' e1 e3
      go_enter Tryd.func48, Tryd.ntmps48
      go_wp2_with fail
      refine HW.out.mono ?_
      rintro e w1 ⟨rfl, hs1⟩
      obtain ⟨S', g, hd, _⟩ := hs1.get
      obtain ⟨-, -, -, k3, -, -, -⟩ := c6 hd.cell
      have HM := Lib.hid hd.now
      replace hs1 := Lib.hid hs1
      clear hd
      go_wp2_with (at_lookup; refine wpList_look_none _ rfl _ _ rfl g.bn g.fs _ rfl HM.out s rfl hs HL.out ?_)
      go_ret
      exact ⟨rfl, hs1.out⟩
    | some i =>
      have e1 : syncE st s.data.toList = 0 := by simp [syncE, hb, hl]
      have hl' : lookN (wrS st).N s.data.toList = some i := by rw [wrS_N]; exact hl
      rw [e1]
      have HL := Lib.hid hl'
      clear hb hl hl' e1
      go_enter Tryd.func48, Tryd.ntmps48
      go_wp2_with fail
      refine HW.out.mono ?_
      rintro e w1 ⟨rfl, hs1⟩
      obtain ⟨S', g, hd, hbn⟩ := hs1.get
      obtain ⟨-, -, -, k3, -, -, -⟩ := c6 hd.cell
      obtain ⟨f, hf, hfile, hll⟩ := hd.file HL.out
      obtain ⟨c2, f2, hwr⟩ := lasts_file hfile f.s.length
      have HM := Lib.hid hd.now
      have HN := Lib.hid (len_any _ _ _ _ w1 hfile)
      have HX := Lib.hid (hbn.step (sync_step hd HL.out hf hwr))
      clear hd hs1 hf hfile hwr hll hbn
      go_wp2_with (at_lookup; refine wpList_look_some _ rfl _ _ rfl g.bn g.fs _ rfl HM.out s rfl hs i HL.out ?_)
      refine HN.out.mono ?_
      rintro e w2 ⟨rfl, rfl⟩
      go_wp2
      go_ret
      exact ⟨rfl, HX.out⟩
set_option maxHeartbeats 1600000 in
theorem read_any (S : Nat → Prop) (p : Nat) (st : St) (s : ByteArray) (hs : s.size ≤ maxLen) (w : World) (h : IsDisk w S p st) :
    Calls Tryd.prog 57 #[.pointer (some ⟨p, 0, none⟩), .string s] w fun e w' => e = .returned (.tuple #[.string ⟨(readA st s.data.toList).toArray⟩, .int .i64 (readE st s.data.toList)]) ∧ Step S p st w w' := by
  have hst := h
  obtain ⟨g, h⟩ := h
  obtain ⟨-, k1, -, k3, -, -, -⟩ := c6 h.cell
  cases hd : st.dead with
  | true =>
    have e1 : readE st s.data.toList = 11 := by simp [readE, hd]
    have e2 : readA st s.data.toList = [] := by simp [readA, hd]
    rw [e1, e2]
    rw [hd] at k1
    simp only [Bool.not_true] at k1
    have HS := Lib.hid (Step.same hst)
    clear h hd e1 e2 hst
    go_enter Tryd.func57, Tryd.ntmps57
    go_wp2
    go_ret2
    exact ⟨rfl, HS.out⟩
  | false =>
    rw [hd] at k1
    simp only [Bool.not_false] at k1
    have HM := Lib.hid h.now
    cases hl : lookN st.N s.data.toList with
    | none =>
      have e1 : readE st s.data.toList = 12 := by simp [readE, hd, hl]
      have e2 : readA st s.data.toList = [] := by simp [readA, hd, hl]
      rw [e1, e2]
      have HS := Lib.hid (Step.same hst)
      have HL := Lib.hid hl
      clear h hd hl e1 e2 hst
      go_enter Tryd.func57, Tryd.ntmps57
      go_wp2_with (at_lookup; refine wpList_look_none _ rfl _ _ rfl g.bn g.fs _ rfl HM.out s rfl hs HL.out ?_)
      go_ret2
      exact ⟨rfl, HS.out⟩
    | some i =>
      obtain ⟨f, hf, hfile, hll⟩ := h.file hl
      have e1 : readE st s.data.toList = 0 := by simp [readE, hd, hl]
      have e2 : readA st s.data.toList = f.s := by simp [readA, hd, hl, List.getD_eq_getElem?_getD, hf]
      rw [e1, e2]
      have HS := Lib.hid (string_any _ _ _ _ w hfile)
      have HL := Lib.hid hl
      have HX := Lib.hid (fun w' (hw : Wrote (blk g.fs i) (g.rows.getD i none) f.s f.lasts w w') => h.wroteSame hf hw)
      clear h hd hl e1 e2 hst hf hfile hll
      go_enter Tryd.func57, Tryd.ntmps57
      go_wp2_with (at_lookup; refine wpList_look_some _ rfl _ _ rfl g.bn g.fs _ rfl HM.out s rfl hs i HL.out ?_)
      refine HS.out.mono ?_
      rintro e w2 ⟨rfl, hf2, hu2⟩
      have H := Lib.hid (HX.out w2 ⟨⟨_, hf2, .inl rfl⟩, hu2.mono fun _ _ h => .inr h⟩)
      clear hf2 hu2
      go_wp2
      go_ret2
      exact ⟨rfl, H.out⟩
/-! ### what a name is -/
def signN (n : Int) : Bool := decide (97 ≤ n) && decide (n ≤ 122) || (decide (48 ≤ n) && decide (n ≤ 57)) || decide (n = 46) || decide (n = 45)
theorem sign_of (c : UInt8) : isSign c = signN (c.toNat : Int) := by
  have h1 : ∀ k : UInt8, decide (k ≤ c) = decide ((k.toNat : Int) ≤ c.toNat) := fun k => by rw [Bool.eq_iff_iff]; simp [UInt8.le_iff_toNat_le]
  have h2 : ∀ k : UInt8, decide (c ≤ k) = decide ((c.toNat : Int) ≤ k.toNat) := fun k => by rw [Bool.eq_iff_iff]; simp [UInt8.le_iff_toNat_le]
  have h3 : ∀ k : UInt8, (c == k) = decide ((c.toNat : Int) = k.toNat) := fun k => by
    rw [Bool.eq_iff_iff]; simp [← UInt8.toNat_inj]; omega
  unfold isSign signN
  rw [h1, h2, h1, h2, h3, h3]
  rfl
theorem sign_class (n : Int) : (97 ≤ n ∧ n ≤ 122) ∨ (48 ≤ n ∧ n ≤ 57) ∨ n = 46 ∨ n = 45 ∨ 122 < n ∨ (57 < n ∧ n < 97) ∨ n = 47 ∨ n < 45 := by omega
set_option maxHeartbeats 1600000 in
theorem signN_any (n : Int) (w : World) : Calls Tryd.prog 90 #[.int .u8 n] w fun e w' => e = .returned (.bool (signN n)) ∧ w = w' := by
  rcases sign_class n with ⟨h1, h2⟩ | ⟨h1, h2⟩ | rfl | rfl | h1 | ⟨h1, h2⟩ | rfl | h1
  · have e : signN n = true := by simp [signN]; omega
    rw [e]
    clear e
    go_enter Tryd.func90, Tryd.ntmps90
    go_wp2
    go_ret
    exact ⟨rfl, rfl⟩
  · have e : signN n = true := by simp [signN]; omega
    rw [e]
    clear e
    have e1 : ¬ 97 ≤ n := by omega
    go_enter Tryd.func90, Tryd.ntmps90
    go_wp2
    go_ret
    exact ⟨rfl, rfl⟩
  · go_enter Tryd.func90, Tryd.ntmps90
    go_wp2
    go_ret
    exact ⟨rfl, rfl⟩
  · go_enter Tryd.func90, Tryd.ntmps90
    go_wp2
    go_ret
    exact ⟨rfl, rfl⟩
  · have e : signN n = false := by simp [signN]; omega
    rw [e]
    clear e
    have e0 : 97 ≤ n := by omega
    have e1 : ¬ n ≤ 122 := by omega
    have e2 : 48 ≤ n := by omega
    have e3 : ¬ n ≤ 57 := by omega
    have e4 : (n == 46) = false := by simp; omega
    have e5 : (n == 45) = false := by simp; omega
    go_enter Tryd.func90, Tryd.ntmps90
    go_wp2
    go_ret
    exact ⟨rfl, rfl⟩
  · have e : signN n = false := by simp [signN]; omega
    rw [e]
    clear e
    have e0 : ¬ 97 ≤ n := by omega
    have e2 : 48 ≤ n := by omega
    have e3 : ¬ n ≤ 57 := by omega
    have e4 : (n == 46) = false := by simp; omega
    have e5 : (n == 45) = false := by simp; omega
    go_enter Tryd.func90, Tryd.ntmps90
    go_wp2
    go_ret
    exact ⟨rfl, rfl⟩
  · go_enter Tryd.func90, Tryd.ntmps90
    go_wp2
    go_ret
    exact ⟨rfl, rfl⟩
  · have e : signN n = false := by simp [signN]; omega
    rw [e]
    clear e
    have e0 : ¬ 97 ≤ n := by omega
    have e2 : ¬ 48 ≤ n := by omega
    have e4 : (n == 46) = false := by simp; omega
    have e5 : (n == 45) = false := by simp; omega
    go_enter Tryd.func90, Tryd.ntmps90
    go_wp2
    go_ret
    exact ⟨rfl, rfl⟩
theorem sign_any (c : UInt8) (w : World) : Calls Tryd.prog 90 #[.int .u8 (c.toNat : Int)] w fun e w' => e = .returned (.bool (isSign c)) ∧ w = w' := by
  rw [sign_of]; exact signN_any _ w
theorem sign_is (c : UInt8) {b : Bool} (h : isSign c = b) (w : World) : Calls Tryd.prog 90 #[.int .u8 (c.toNat : Int)] w fun e w' => e = .returned (.bool b) ∧ w = w' := by
  rw [← h]; exact sign_any c w
theorem name_long {l : Str} (h : 32 < l.length) : isName l = false := by unfold isName; simp; intro _ h2; omega
theorem name_nil : isName [] = false := rfl
theorem name_all {l : Str} (h0 : 1 ≤ l.length) (h : l.length ≤ 32) : isName l = l.all isSign := by unfold isName; simp [h0, h]
/-- A call that answers v and leaves the world alone. -/
def Ans (v : Value) (w : World) (e : Ending) (w' : World) : Prop := e = .returned v ∧ w = w'
theorem toList_is (s : ByteArray) : s.toList = s.data.toList := ByteArray.toList_eq s
set_option maxHeartbeats 1600000 in
theorem name_any (s : ByteArray) (hs : s.size ≤ maxLen) (w : World) : Calls Tryd.prog 61 #[.string s] w (Ans (.bool (isName s.data.toList)) w) := by
  unfold maxLen at hs
  by_cases h0 : s.size = 0
  · have e1 : s.data.toList = [] := List.eq_nil_of_length_eq_zero (by simpa using h0)
    rw [e1, name_nil]
    have e2 : s = ByteArray.empty := by
      cases s with | mk d => simp at e1; simp [e1]; rfl
    subst e2
    clear h0 e1 hs
    go_enter Tryd.func61, Tryd.ntmps61
    go_wp2
    go_ret
    exact ⟨rfl, rfl⟩
  · have e1 : ¬ s.toList = [] := by
      rw [toList_is]; intro hh
      have e : s.size = s.data.toList.length := by simp
      rw [hh] at e
      exact h0 e
    have e0 : s.toList.isEmpty = false := by
      cases hh : s.toList with
      | nil => exact absurd hh e1
      | cons a r => rfl
    by_cases h1 : 32 < s.size
    · rw [name_long (by simpa using h1)]
      have h1' : decide ((32 : Int) < (s.size : Int)) = true := decide_eq_true (by omega)
      go_enter Tryd.func61, Tryd.ntmps61
      go_wp2
      go_ret
      exact ⟨rfl, rfl⟩
    · rw [name_all (by simp; omega) (by simp; omega)]
      have h1' : decide ((32 : Int) < (s.size : Int)) = false := decide_eq_false (by omega)
      obtain ⟨l, hl⟩ : ∃ l, l = s.data.toList := ⟨_, rfl⟩
      rw [← hl]
      have HL := Lib.hid hl
      clear hl
      go_enter Tryd.func61, Tryd.ntmps61
      go_wp2
      go_loop [13] (fun i => ∃ k : Nat, k ≤ s.size ∧ i = .int .i64 k ∧ ((l.take k).all isSign = true)) (fun i => s.size - (intOf i).toNat)
      case atStart => exact ⟨0, Nat.zero_le _, rfl, rfl⟩
      case round =>
        obtain ⟨k, hk, rfl, hall⟩ := hrel
        replace hall := Lib.hid hall
        by_cases hlt : k < s.size
        · have hts : l.take (k + 1) = l.take k ++ [s[k]] := by rw [HL.out, List.take_succ_eq_append_getElem (by simpa using hlt)]; rfl
          cases hsg : isSign s[k] with
          | true =>
            have HA := Lib.hid (show (l.take (k + 1)).all isSign = true by rw [hts, List.all_append, hall.out]; simp [hsg])
            have HC := Lib.hid (fun w => sign_is s[k] hsg w)
            clear hts hsg
            go_wp2_with fail
            refine (HC.out _).mono ?_
            rintro e w1 ⟨rfl, rfl⟩
            go_wp2
            go_round
            case rel => exact ⟨k + 1, by omega, by go_num, HA.out⟩
            case measure => simp [intOf]; omega
          | false =>
            have HA := Lib.hid (show l.all isSign = false by
              rw [Bool.eq_false_iff]
              intro h
              have hm : s[k] ∈ l := by
                have : s[k] ∈ l.take (k + 1) := by rw [hts]; simp
                exact List.mem_of_mem_take this
              have := List.all_eq_true.1 h _ hm
              rw [hsg] at this; cases this)
            have HC := Lib.hid (fun w => sign_is s[k] hsg w)
            clear hts hsg
            go_wp2_with fail
            refine (HC.out _).mono ?_
            rintro e w1 ⟨rfl, rfl⟩
            go_wp2
            go_ret
            exact ⟨by rw [HA.out]; rfl, rfl⟩
        · obtain rfl : k = s.size := by omega
          have HA := Lib.hid (show l.all isSign = true by
            have h := hall.out
            rw [List.take_of_length_le (by rw [HL.out]; simp)] at h
            exact h)
          go_wp2
          go_ret
          exact ⟨by rw [HA.out]; rfl, rfl⟩
theorem name_is (s : ByteArray) (hs : s.size ≤ maxLen) {b : Bool} (h : isName s.data.toList = b) (w : World) : Calls Tryd.prog 61 #[.string s] w fun e w' => e = .returned (.bool b) ∧ w = w' := by
  rw [← h]; exact name_any s hs w
end Dsk
end Go.Proofs.YtjpgglajcelllaaDoor
end
/- (*Disk).Used (layer 4): the sum over a map that is gone through in whatever order. -/
section
namespace Go.Proofs.YtjpgglajcelllaaDoor
open Go.RowKit
namespace Dsk
open Go.Maps
/-- How many bytes are in the files whose names are no longer to come. -/
def doneSum (F : List FileS) (left : Lit → Bool) : Nms → Nat
  | [] => 0
  | p :: r => (if left (.string p.1) then 0 else (F.getD p.2 default).s.length) + doneSum F left r
theorem doneSum_end (st : St) {left : Lit → Bool} (hl : ∀ kl, left kl = false) : doneSum st.F left st.N = used st := by
  unfold used
  induction st.N with
  | nil => rfl
  | cons p r ih => simp [doneSum, hl, ih]
theorem doneSum_le (F : List FileS) (left : Lit → Bool) : ∀ N : Nms, doneSum F left N ≤ (N.map fun p => (F.getD p.2 default).s.length).sum
  | [] => Nat.le_refl _
  | p :: r => by
    have ih := doneSum_le F left r
    simp only [doneSum, List.map_cons, List.sum_cons]
    split <;> omega
theorem doneSum_start (fs : List Nat) (F : List FileS) (N : Nms) : ∀ M : Nms, (∀ p ∈ M, p ∈ N) → doneSum F (Maps.has (toD fs N)) M = 0
  | [], _ => rfl
  | p :: r, h => by
    have ih := doneSum_start fs F N r fun q hq => h q (List.mem_cons_of_mem _ hq)
    have hp := h p List.mem_cons_self
    have : Maps.has (toD fs N) (.string p.1) = true := by
      rw [toD_has]
      cases e : lookN N p.1 with
      | none => exact absurd rfl (look_none e p hp)
      | some i => rfl
    simp [doneSum, this, ih]
theorem doneSum_other (F : List FileS) (left : Lit → Bool) (k : Str) : ∀ M : Nms, (∀ p ∈ M, p.1 ≠ k) → doneSum F (fun z => left z && !z.sameKey (.string k)) M = doneSum F left M
  | [], _ => rfl
  | p :: r, h => by
    have ih := doneSum_other F left k r fun q hq => h q (List.mem_cons_of_mem _ hq)
    have hp : (Lit.string p.1).sameKey (.string k) = false := by rw [same_str]; simpa using h p List.mem_cons_self
    simp only [doneSum, hp, ih, Bool.not_false, Bool.and_true]
theorem doneSum_step (F : List FileS) {left : Lit → Bool} {k : Str} {i : Nat} : ∀ {N : Nms}, Rising N → lookN N k = some i → left (.string k) = true →
    doneSum F (fun z => left z && !z.sameKey (.string k)) N = doneSum F left N + (F.getD i default).s.length
  | [], _, h, _ => by cases h
  | p :: r, hR, h, hl => by
    have hr : Rising r := List.Pairwise.of_cons hR
    by_cases e : p.1 = k
    · have hp : (Lit.string p.1).sameKey (.string k) = true := by rw [same_str]; simpa using e
      have hi : p.2 = i := by
        unfold lookN at h
        rw [List.find?_cons] at h
        simp [e] at h
        exact h
      have ho := doneSum_other F left k r fun q hq h => by
        have := before_ne (List.rel_of_pairwise_cons hR hq)
        exact this (e.trans h.symm)
      have hl' : left (.string p.1) = true := by rw [e]; exact hl
      simp only [doneSum, hp, ho, Bool.not_true, Bool.and_false, hi, hl', if_true, Bool.false_eq_true, if_false]
      omega
    · have hp : (Lit.string p.1).sameKey (.string k) = false := by rw [same_str]; simpa using e
      have h' : lookN r k = some i := by
        unfold lookN at h ⊢
        rw [List.find?_cons] at h
        have : (p.1 == k) = false := by simpa using e
        rw [this] at h
        exact h
      have ih := doneSum_step F hr h' hl
      simp only [doneSum, hp, ih, Bool.not_false, Bool.and_true]
      omega
/-- The step of a range over a map of files. -/
theorem wpList_next_files (w : World) {ops : Array Oper} {rest : List Oper} {o : Oper} {a : Act} {Q : Exit → Act → World → Prop} (hg : o.guard = none) (it : Operand) (hop : o.op = Op.next it false)
    (b r n : Nat) (fs : List Nat) (N : Nms) (left : Lit → Bool) (cnt : Nat) (hit : a.eval it = .pointer (some ⟨r, 0, none⟩)) (h : w.ranges Tryd.prog 9 ptrElem b r n (toD fs N) left cnt)
    (hDone : (∀ kl, left kl = false) → wpList Tryd.prog ops Q rest (a.put o.dst (.tuple #[.bool false])) w)
    (hMore : ∀ (k : ByteArray) (i : Nat) (w' : World) (cnt' : Nat), lookN N k.data.toList = some i → left (.string k.data.toList) = true → w'.ranges Tryd.prog 9 ptrElem b r n (toD fs N) (fun z => left z && !z.sameKey (.string k.data.toList)) cnt' → cnt' < cnt →
      w.grownBy w' (some r) → (Instr.entry (.pointer (some ⟨r, 0, none⟩))).run Tryd.prog w' = .ok (.tuple #[.string k, .pointer (some ⟨blk fs i, 0, none⟩)]) w' → wpList Tryd.prog ops Q rest (a.put o.dst (.tuple #[.bool true, .string k, .pointer (some ⟨blk fs i, 0, none⟩)])) w') :
    wpList Tryd.prog ops Q (o :: rest) a w := by
  refine wpList_next_ranges w hg it hop 9 keyed9 ptrElem (Value.string) (fun c : Option Nat => .pointer (c.map fun b => ⟨b, 0, none⟩))
    (fun key kl hkey => Maps.keyOf_string_inv Tryd.underlying9 hkey) (fun v y hv => ?_) b r n (toD fs N) left cnt hit h (fun _ => hDone) ?_
  · unfold ptrElem at hv
    split at hv
    · exact ⟨none, rfl⟩
    · exact ⟨some _, rfl⟩
    · cases hv
  · intro k c kl y w' cnt' hkey hl hv hat hrg hlt hgr hsz hen
    have hkl : kl = .string k.data.toList := by
      simp [keyOf, mapKey, Tryd.underlying9] at hkey
      exact hkey.2.symm
    subst hkl
    have h0 := hat (.lit (.int .i64 0))
    have h1 := hat (.lit (.int .i64 1))
    rw [toD_at] at h0 h1
    cases e : lookN N k.data.toList with
    | none =>
      rw [e] at h0 h1
      rw [← h0] at h1
      simp at h1
    | some i =>
      rw [e] at h0
      simp only at h0
      have hc : Value.pointer (c.map fun b => ⟨b, 0, none⟩) = .pointer (some ⟨blk fs i, 0, none⟩) := ptrElem_inv (ps := y.2) (by rw [hv, h0])
      rw [hc] at hen
      rw [hc]
      exact hMore k i w' cnt' e hl hrg hlt hgr hen
set_option maxHeartbeats 1600000 in
theorem used_any (S : Nat → Prop) (p : Nat) (st : St) (w : World) (h : IsDisk w S p st) (hu : used st ≤ 4000000000000000000) :
    Calls Tryd.prog 62 #[.pointer (some ⟨p, 0, none⟩)] w fun e w' => e = .returned (.int .i64 (used st : Int)) ∧ Upon (fun _ => False) w w' := by
  obtain ⟨g, h⟩ := h
  obtain ⟨-, -, -, k3, -, -, -⟩ := c6 h.cell
  have HD := Lib.hid h
  have HM := Lib.hid h.now
  have HR := Lib.hid h.fine.nmN.rising
  clear h
  go_enter Tryd.func62, Tryd.ntmps62
  go_wp2_with (at_range; refine wpList_range_own _ rfl _ 85 rfl 9 96 keyed9 Tryd.underlying85 ptrElem g.bn st.N.length (toD g.fs st.N) rfl HM.out ?_; intro w0 hrg0 hg0 hs0)
  have HU0 := Lib.hid (show Upon (fun _ => False) w w0 from (Upon.refl _ w).grown hg0 (fun k e => by cases e))
  have HG0 := Lib.hid hrg0
  clear hrg0 hg0 hs0 k3
  go_frame
  go_loopw [3] (fun t wr => ∃ (left : Lit → Bool) (cnt : Nat), wr.ranges Tryd.prog 9 ptrElem g.bn w.heap.size st.N.length (toD g.fs st.N) left cnt ∧ t = .int .i64 (doneSum st.F left st.N : Int) ∧ Upon (fun _ => False) w wr)
    (fun _ wr => wr.rangeLeft g.bn w.heap.size)
  case atStart => exact ⟨_, _, HG0.out, by rw [doneSum_start g.fs st.F st.N st.N fun _ h => h]; rfl, HU0.out⟩
  case round =>
    obtain ⟨left, cnt, hrg, rfl, hup⟩ := hrel
    have HRG := Lib.hid hrg
    have HUP := Lib.hid hup
    clear hrg hup
    have hle : doneSum st.F left st.N ≤ 4000000000000000000 := Nat.le_trans (doneSum_le _ _ _) hu
    go_wp2_with (at_next; refine wpList_next_files _ rfl _ rfl g.bn w.heap.size st.N.length g.fs st.N left cnt rfl HRG.out ?_ ?_)
    · intro hl0
      have HE := Lib.hid (doneSum_end st hl0)
      clear hl0
      go_wp2
      go_ret
      exact ⟨by rw [← HE.out]; rfl, HUP.out⟩
    · intro k i w1 cnt1 hlk hlx hrg1 hlt hg1 hen
      have HUP1 := Lib.hid (HUP.out.grown hg1 (fun k e => by cases e; exact .inr (Nat.le_refl _)))
      have hd1 := HD.out.kept (fun b hb => HUP1.out.block b (HD.out.lt b hb) (fun h => h)) HUP1.out.size
      obtain ⟨f, hf, hfile, -⟩ := hd1.file hlk
      have hstep := doneSum_step st.F HR.out hlk hlx
      have hfl : (st.F.getD i default).s.length = f.s.length := by rw [List.getD_eq_getElem?_getD, hf]; rfl
      rw [hfl] at hstep
      have hle2 := Nat.le_trans (doneSum_le st.F (fun z => left z && !z.sameKey (.string k.data.toList)) st.N) hu
      rw [hstep] at hle2
      have HST := Lib.hid hstep
      have HN := Lib.hid (len_any _ _ _ _ w1 hfile)
      have HRG1 := Lib.hid hrg1
      have HLT := Lib.hid hlt
      clear hd1 hf hfile hstep hfl hlk hlx hrg1 hg1 hlt
      go_wp2_with fail
      refine HN.out.mono ?_
      rintro e w2 ⟨rfl, rfl⟩
      go_wp2
      go_roundw
      case rel => exact ⟨_, cnt1, HRG1.out, by rw [HST.out]; go_num, HUP1.out⟩
      case measure => rw [HRG1.out.left_eq, HRG.out.left_eq]; exact HLT.out
end Dsk
end Go.Proofs.YtjpgglajcelllaaDoor
end
/- (*Disk).settle and (*Disk).SyncNames (layer 4): changes of names are done again to the names that last. -/
section
namespace Go.Proofs.YtjpgglajcelllaaDoor
open Go.RowKit
namespace Dsk
open Go.Maps
/-- What settle leaves. -/
def Settled (S : Nat → Prop) (p : Nat) (st : St) (w : World) (e : Ending) (w' : World) : Prop :=
  e = .returned (.tuple #[]) ∧ (∃ g, DiskM w' S p st g) ∧ Upon S w w'
theorem take_snoc' {α : Type} {l : List α} {j : Nat} {c : α} (h : l[j]? = some c) : l.take (j + 1) = l.take j ++ [c] := by
  obtain ⟨hl, rfl⟩ := List.getElem?_eq_some_iff.1 h
  exact List.take_succ_eq_append_getElem hl
theorem settle_end {w wr : World} {S : Nat → Prop} {p : Nat} {st : St} {g : Ghost} {n : Nat} (h : DiskM w S p st g) (hm : MapAt wr g.bl g.fs ((st.C.take n).foldl appC st.L)) (hu : w.grownBy wr (some g.bl)) :
    wr.cell? ⟨p, 5, none⟩ = some g.cv ∧ wr.frozen? ⟨p, 5, none⟩ = false ∧ (∃ g', DiskM (wr.setCell ⟨p, 5, none⟩ (.slice none 0 0)) S p (settle st n) g') ∧ Upon S w (wr.setCell ⟨p, 5, none⟩ (.slice none 0 0)) := by
  have hpl := ne_of_map h.last h.cell
  have hp : wr.heap[p]? = some (.cells (cellsOf st g) 88 (0, 0)) := (hu.block p (h.lt p h.s_p) (fun e => hpl (Option.some.inj e))).trans h.cell
  have hk : ∀ b, b < w.heap.size → b ≠ p → b ≠ g.bl → (wr.setCell ⟨p, 5, none⟩ (.slice none 0 0)).heap[b]? = w.heap[b]? := fun b hb h1 h2 => by
    rw [Below.heap_setCell _ _ _ _ h1]; exact hu.block b hb (fun e => h2 (Option.some.inj e))
  have hc : ∀ (b : Nat) c T z, S b → w.heap[b]? = some (Obj.cells c T z) → T ≠ 88 → (wr.setCell ⟨p, 5, none⟩ (.slice none 0 0)).heap[b]? = w.heap[b]? := fun b c T z hS hb hT =>
    hk b (h.lt b hS) (by rintro rfl; rw [h.cell] at hb; simp at hb; exact hT hb.2.1.symm) (ne_of_map h.last hb)
  obtain ⟨-, -, -, -, -, c5, cf⟩ := c6 hp
  refine ⟨c5, cf 5, ⟨{ g with cv := .slice none 0 0, cvs := [] }, ?_⟩, ((Upon.refl S w).grown hu (fun k e => by cases e; exact .inl h.s_l)).setCell (p := ⟨p, 5, none⟩) (.inl h.s_p) _⟩
  exact {
    cell := by rw [set6 hp]; rfl
    fuse := h.fuse
    wf := h.wf
    wr := h.wr
    now := map_kept_cells h.now fun es clock hb => hk _ h.now.lt (by intro e; rw [e, h.cell] at hb; cases hb) h.two
    last := hm.kept (Below.heap_setCell _ _ _ _ (fun e => hpl e.symm))
    two := h.two
    files := files_keptB h.files fun b c T z hS hb hT => hc b c T z hS hb (by rintro rfl; rcases hT with e | e <;> cases e)
    chs := ChsAt.none _ _ _
    s_p := h.s_p
    s_n := h.s_n
    s_l := h.s_l
    lt := fun b hb => by have := h.lt b hb; have := hu.size; simp [World.setCell]; omega }
theorem DiskM.cvNil {w : World} {S : Nat → Prop} {p : Nat} {st : St} {g : Ghost} (h : DiskM w S p st g) : (w.cell? ⟨p, 5, none⟩ = some (.slice none 0 0) → g.cv = .slice none 0 0) ∧ True := by
  obtain ⟨-, -, -, -, -, c5, -⟩ := c6 h.cell
  exact ⟨fun e => by rw [c5] at e; exact Option.some.inj e, trivial⟩
/-- How far settle has come. -/
def Upto (st : St) (g : Ghost) (w : World) (n : Nat) (i : Value) (wr : World) : Prop :=
  ∃ j : Nat, j ≤ n ∧ i = .int .i64 (j : Int) ∧ MapAt wr g.bl g.fs ((st.C.take j).foldl appC st.L) ∧ w.grownBy wr (some g.bl)
set_option maxHeartbeats 3200000 in
set_option maxRecDepth 100000 in
theorem settle_any (S : Nat → Prop) (p : Nat) (st : St) (n : Nat) (hn : n ≤ st.C.length) (w : World) (h : IsDisk w S p st) :
    Calls Tryd.prog 53 #[.pointer (some ⟨p, 0, none⟩), .int .i64 (n : Int)] w (Settled S p (settle st n) w) := by
  obtain ⟨g, h⟩ := h
  obtain ⟨-, -, -, -, k4, k5, -⟩ := c6 h.cell
  have hcell := h.cell
  have hpl := ne_of_map h.last h.cell
  have hplt := h.lt p h.s_p
  have HP := Lib.hid hcell
  have HPL := Lib.hid hpl
  have HD := Lib.hid h.toDiskM
  have HF := Lib.hid h.fine
  rcases h.chs.row.2 with ⟨hv, h0⟩ | ⟨gb, cap, cur, hv, _, hgb, hnc, hcm, hcs, htk⟩
  · have hn0 : n = 0 := by omega
    subst hn0
    rw [hv] at k5
    have HE := Lib.hid (settle_end (n := 0) h.toDiskM (by simpa using h.last) ⟨rfl, rfl, rfl, Nat.le_refl _, fun _ _ _ => rfl⟩)
    clear hcell hpl h hv h0
    go_enter Tryd.func53, Tryd.ntmps53
    go_wp2
    refine wp_loop_rounds 1 ?_
    rw [rounds_succ]
    obtain ⟨c5, f5, hg, hu⟩ := HE.out
    rw [HD.out.cvNil.1 k5] at c5
    have HX := Lib.hid (And.intro hg hu)
    clear hg hu HE
    go_wp2
    go_end0
    exact ⟨rfl, HX.out⟩
  · have hgl := ne_of_map h.last hgb
    have hgS := h.chs.s_c gb (by rw [hv]; rfl)
    rw [hv] at k5
    have hcells := h.chs.row.cells (g := gb) (by rw [hv]; rfl)
    have HCE := Lib.hid hcells
    have HGB := Lib.hid hgb
    have HGL := Lib.hid hgl
    have HV := Lib.hid hv
    have HL0 := Lib.hid h.last
    have HCH := Lib.hid h.chs
    have hlenC : (g.cvs).length = st.C.length := by simpa using h.chs.row.1
    replace hlenC := Lib.hid hlenC
    unfold maxLen at hcm
    have hncap : (n : Int) ≤ (cap : Int) := by omega
    clear hcell hpl h hv hcells hgb hgl hcs htk
    go_enter Tryd.func53, Tryd.ntmps53
    go_wp2
    go_loopw [13] (fun i wr => Upto st g w n i wr) (fun i _ => n - (intOf i).toNat)
    case atStart => exact ⟨0, Nat.zero_le _, rfl, by simpa using HL0.out, rfl, rfl, rfl, Nat.le_refl _, fun _ _ _ => rfl⟩
    case round =>
      obtain ⟨j, hj, rfl, hm, hgr⟩ := hrel
      have hp : wr.heap[p]? = some (.cells (cellsOf st g) 88 (0, 0)) := (hgr.block p hplt (fun e => HPL.out (Option.some.inj e))).trans HP.out
      obtain ⟨-, -, -, -, q4, q5, qf⟩ := c6 hp
      have HM := Lib.hid hm
      have HG := Lib.hid hgr
      by_cases hlt : j < n
      · obtain ⟨c, hc⟩ : ∃ c, st.C[j]? = some c := ⟨_, List.getElem?_eq_getElem (by omega)⟩
        obtain ⟨v, hcv, hch⟩ := HCH.out.ch j c hc
        have hcj : wr.cell? ⟨gb, j, none⟩ = some v := by
          have := HCE.out j v hcv
          have e : (⟨gb, 0, none⟩ : Addr).add j = ⟨gb, j, none⟩ := by unfold Addr.add; split <;> simp_all
          rw [e] at this
          rw [← this]
          exact World.cell?_of_block (hgr.block gb (lt_of_block HGB.out) (fun e => HGL.out (Option.some.inj e)))
        have hch' : ChAt wr S g.fs c v := hch.keptB fun b x T hT hb => hgr.block b (lt_of_block hb.2) (fun e => ne_of_map HL0.out hb.2 (Option.some.inj e))
        have hok := good_at j HF.out.good hc
        have hnm := (HF.out.nmK j).len
        have hcl := clo_at hch' hok (HF.out.chs c (List.mem_of_getElem? hc)) hm (by omega)
        have hnext : ∀ w1, CloPost g.bl g.fs (appC ((st.C.take j).foldl appC st.L) c) wr (.returned (.tuple #[])) w1 → Upto st g w n (.int .i64 ((j + 1 : Nat) : Int)) w1 := by
          rintro w1 ⟨_, h1, h2⟩
          refine ⟨j + 1, by omega, rfl, ?_, hgr.andThen h2 (fun _ e => .inr e)⟩
          rw [take_snoc' hc, List.foldl_append]
          exact h1
        have HX := Lib.hid hnext
        clear hp hm hgr q5 qf hc hcv hch hch' hok hnext
        rcases hcl with ⟨bf, bk, rfl, hcl⟩ | ⟨bf, bk, rfl, hcl⟩ | ⟨bf, rfl, hcl⟩
        all_goals
          replace hcl := Lib.hid hcl
          go_wp2_with fail
          refine hcl.out.mono ?_
          rintro e w1 hpost
          obtain rfl : e = .returned (.tuple #[]) := hpost.1
          have HY := Lib.hid (HX.out w1 hpost)
          clear hpost
          go_wp2
          go_roundw
          case rel => exact HY.out
          case measure => simp [intOf]; omega
      · obtain rfl : j = n := by omega
        obtain ⟨e5, f5, hE, hU⟩ := settle_end HD.out hm hgr
        rw [HV.out] at e5
        have HX := Lib.hid (And.intro hE hU)
        clear hp hm hgr q5 qf hE hU
        go_wp2
        go_end0
        exact ⟨rfl, HX.out⟩
theorem settled_all {S : Nat → Prop} {p : Nat} {st : St} {w w' : World} (hf : Fine st) (h : (∃ g, DiskM w' S p (settle st st.C.length) g) ∧ Upon S w w') : Step S p (settle st st.C.length) w w' := by
  obtain ⟨⟨g, hg⟩, hu⟩ := h
  exact ⟨⟨S, ⟨g, { hg with fine := hf.settle _ (Nat.le_refl _) }⟩, fun _ h => h, fun _ h => .inl h⟩, hu⟩
set_option maxHeartbeats 1600000 in
theorem sn_any (S : Nat → Prop) (p : Nat) (st : St) (w : World) (h : IsDisk w S p st) :
    Calls Tryd.prog 51 #[.pointer (some ⟨p, 0, none⟩)] w fun e w' => e = .returned (.int .i64 (snE st)) ∧ Step S p (snS st) w w' := by
  cases hb : wrB st with
  | false =>
    have e1 : snE st = 11 := by simp [snE, hb]
    have e2 : snS st = wrS st := by simp [snS, hb]
    rw [e1, e2]
    have HW := Lib.hid (wr_is S p st w h hb)
    clear h hb e1 e2
    go_enter Tryd.func51, Tryd.ntmps51
    go_wp2_with fail
    refine HW.out.mono ?_
    rintro e w1 ⟨rfl, hs1⟩
    replace hs1 := Lib.hid hs1
    go_wp2
    go_ret
    exact ⟨rfl, hs1.out⟩
  | true =>
    have e1 : snE st = 0 := by simp [snE, hb]
    have e2 : snS st = settle (wrS st) (wrS st).C.length := by simp [snS, hb, wrS_C]
    rw [e1, e2]
    have HW := Lib.hid (wr_is S p st w h hb)
    clear h hb e1 e2
    obtain ⟨st1, hst1⟩ : ∃ s, s = wrS st := ⟨_, rfl⟩
    rw [← hst1] at HW ⊢
    clear hst1
    go_enter Tryd.func51, Tryd.ntmps51
    go_wp2_with fail
    refine HW.out.mono ?_
    rintro e w1 ⟨rfl, hs1⟩
    obtain ⟨S', g, hd, hbn⟩ := hs1.get
    obtain ⟨-, -, -, -, -, k5, -⟩ := c6 hd.cell
    obtain ⟨a, c, hcv⟩ : ∃ a c, g.cv = .slice a st1.C.length c := by
      rcases hd.chs.row.2 with ⟨hv, h0⟩ | ⟨gb, cap, cur, hv, _⟩
      · exact ⟨none, 0, by rw [hv, h0]⟩
      · exact ⟨_, _, hv⟩
    rw [hcv] at k5
    have HS := Lib.hid (settle_any S' p st1 st1.C.length (Nat.le_refl _) w1 ⟨g, hd⟩)
    have HB := Lib.hid hbn
    have HF := Lib.hid hd.fine
    clear hs1 hd hbn hcv
    go_wp2_with fail
    refine HS.out.mono ?_
    rintro e w2 ⟨rfl, hset⟩
    have HX := Lib.hid (HB.out.step (settled_all HF.out hset))
    clear hset
    go_wp2
    go_ret
    exact ⟨rfl, HX.out⟩
end Dsk
end Go.Proofs.YtjpgglajcelllaaDoor
end
/- (*Disk).Remove, Rename, Append (layer 4). -/
section
namespace Go.Proofs.YtjpgglajcelllaaDoor
open Go.RowKit
namespace Dsk
open Go.Maps
theorem run_look_some {w : World} {b : Nat} {fs : List Nat} {N : Nms} (h : MapAt w b fs N) {k : ByteArray} (hk : k.size ≤ maxLen) {i : Nat} (hi : lookN N k.data.toList = some i) :
    (Instr.lookup 85 (.map (some b)) (.string k) false).run Tryd.prog w = .ok (.pointer (some ⟨blk fs i, 0, none⟩)) w := by
  obtain ⟨v, ps, hrun, hv⟩ := World.ownsMap.lookup h keyed9 Tryd.underlying85 (zeroP w) (zd := .lit (.int .i64 (-1))) (zp := []) rfl (WideMaps.keyOf_string_mk Tryd.underlying9 hk)
  rw [toD_at, hi] at hv
  rw [hrun, ptrElem_inv hv]
theorem run_look_none {w : World} {b : Nat} {fs : List Nat} {N : Nms} (h : MapAt w b fs N) {k : ByteArray} (hk : k.size ≤ maxLen) (hi : lookN N k.data.toList = none) :
    (Instr.lookup 85 (.map (some b)) (.string k) false).run Tryd.prog w = .ok (.pointer none) w := by
  obtain ⟨v, ps, hrun, hv⟩ := World.ownsMap.lookup h keyed9 Tryd.underlying85 (zeroP w) (zd := .lit (.int .i64 (-1))) (zp := []) rfl (WideMaps.keyOf_string_mk Tryd.underlying9 hk)
  rw [toD_at, hi] at hv
  rw [hrun, ptrElem_none hv]
theorem DiskM.mono {w : World} {S T : Nat → Prop} {p : Nat} {st : St} {g : Ghost} (h : DiskM w S p st g) (hS : ∀ b, S b → T b) (hT : ∀ b, T b → b < w.heap.size) : DiskM w T p st g :=
  { h with files := h.files.mono hS, chs := h.chs.mono hS, s_p := hS _ h.s_p, s_n := hS _ h.s_n, s_l := hS _ h.s_l, lt := hT }
theorem DiskG.mono {w : World} {S T : Nat → Prop} {p : Nat} {st : St} {g : Ghost} (h : DiskG w S p st g) (hS : ∀ b, S b → T b) (hT : ∀ b, T b → b < w.heap.size) : DiskG w T p st g :=
  { h.toDiskM.mono hS hT with fine := h.fine }
theorem quiet_upon (w : World) (n : Nat) : Upon (fun _ => False) w (w.drewN n) := ⟨rfl, rfl, rfl, Nat.le_refl _, fun _ _ _ => rfl⟩
theorem lookN_small {st : St} (h : Fine st) {k : Str} {i : Nat} (hi : lookN st.N k = some i) : nameOk k := h.nmN.nm _ (mem_of_look hi)
/-- The change is done with a closure over boxes that are new. -/
theorem chg_step {w w1 : World} {S S' : Nat → Prop} {p : Nat} {st : St} {g : Ghost} (hd : DiskG w1 S' p st g) (hb : Been S S' w w1) {T : Nat → Prop} (hT : ∀ b, T b → w.heap.size ≤ b ∧ b < w1.heap.size) :
    DiskG w1 (fun b => S' b ∨ T b) p st g ∧ Been S (fun b => S' b ∨ T b) w w1 := by
  refine ⟨hd.mono (fun b h => .inl h) (fun b h => h.elim (hd.lt b) fun h => (hT b h).2), fun b h => .inl (hb.sub b h), fun b h => ?_, hb.upon⟩
  rcases h with h | h
  · exact hb.new b h
  · exact .inr (hT b h).1
set_option maxHeartbeats 3200000 in
set_option maxRecDepth 100000 in
theorem rem_any (S : Nat → Prop) (p : Nat) (st : St) (s : ByteArray) (hs : s.size ≤ maxLen) (hC : st.C.length ≤ 1000000000) (w : World) (h : IsDisk w S p st) :
    Calls Tryd.prog 82 #[.pointer (some ⟨p, 0, none⟩), .string s] w fun e w' => e = .returned (.int .i64 (remE st s.data.toList)) ∧ Step S p (remS st s.data.toList) w w' := by
  -- the box of the name
  have hu0 : Upon (fun _ => False) w (w.alloc (.cells #[.string s] 9 (0, 0))) := (Upon.refl _ w).alloc _
  have h0 : IsDisk (w.alloc (.cells #[.string s] 9 (0, 0))) S p st := h.upon hu0 fun _ _ h => h
  have hlt := h.lt
  cases hb : wrB st with
  | false =>
    have e1 : remE st s.data.toList = 11 := by simp [remE, hb]
    have e2 : remS st s.data.toList = wrS st := by simp [remS, hb]
    rw [e1, e2]
    have HW := Lib.hid (wr_is S p st _ h0 hb)
    have HU := Lib.hid hu0
    clear h h0 hb e1 e2 hlt hu0
    go_enter Tryd.func82, Tryd.ntmps82
    go_wp2_with fail
    refine HW.out.mono ?_
    rintro e w1 ⟨rfl, hs1⟩
    have HS := Lib.hid (Step.first HU.out hs1)
    clear hs1
    go_wp2
    go_ret
    exact ⟨rfl, HS.out⟩
  | true =>
    have HW := Lib.hid (wr_is S p st _ h0 hb)
    have HU := Lib.hid hu0
    have HLT := Lib.hid hlt
    have hbox : ∀ w1, Step S p (wrS st) (w.alloc (.cells #[.string s] 9 (0, 0))) w1 → w1.heap[w.heap.size]? = some (.cells #[.string s] 9 (0, 0)) := fun w1 h1 =>
      (h1.upon.block w.heap.size (by simp) (fun hS => by have := hlt _ hS; omega)).trans (cell_new w _)
    have HB := Lib.hid hbox
    cases hl : lookN st.N s.data.toList with
    | none =>
      have e1 : remE st s.data.toList = 12 := by simp [remE, hb, hl]
      have e2 : remS st s.data.toList = wrS st := by simp [remS, hl]
      rw [e1, e2]
      have HL := Lib.hid (show lookN (wrS st).N s.data.toList = none by rw [wrS_N]; exact hl)
      clear h h0 hb e1 e2 hlt hu0 hl hbox
      go_enter Tryd.func82, Tryd.ntmps82
      go_wp2_with fail
      refine HW.out.mono ?_
      rintro e w1 ⟨rfl, hs1⟩
      have HS := Lib.hid (Step.first HU.out hs1)
      have cb := cell_of_one (HB.out w1 hs1)
      obtain ⟨S', g, hd, hbn⟩ := hs1.get
      obtain ⟨-, -, -, k3, -, -, -⟩ := c6 hd.cell
      have hlk := fun n => run_look_none (w := w1.drewN n) (hd.now.kept rfl) hs HL.out
      clear hs1 hd hbn
      go_wp2_with fail
      go_quiet (fail)
      go_wp2
      go_ret
      exact ⟨rfl, HS.out.then (quiet_upon _ _)⟩
    | some i =>
      have e1 : remE st s.data.toList = 0 := by simp [remE, hb, hl]
      have e2 : remS st s.data.toList = chg (wrS st) (.del s.data.toList) := by simp [remS, hb, hl]
      rw [e1, e2]
      have HL := Lib.hid (show lookN (wrS st).N s.data.toList = some i by rw [wrS_N]; exact hl)
      have hC' : (wrS st).C.length ≤ 1000000000 := by rw [wrS_C]; exact hC
      clear h h0 hb e1 e2 hlt hu0 hl hbox hC
      obtain ⟨st1, hst1⟩ : ∃ s, s = wrS st := ⟨_, rfl⟩
      rw [← hst1] at HW HB HL hC' ⊢
      clear hst1
      go_enter Tryd.func82, Tryd.ntmps82
      go_wp2_with fail
      refine HW.out.mono ?_
      rintro e w1 ⟨rfl, hs1⟩
      have hbx := HB.out w1 hs1
      have cb := cell_of_one hbx
      obtain ⟨S', g, hd, hbn⟩ := hs1.get
      obtain ⟨-, -, -, k3, -, -, -⟩ := c6 hd.cell
      have hlk := fun n => run_look_some (w := w1.drewN n) (hd.now.kept rfl) hs HL.out
      have hbn2 : Been S S' w w1 := ⟨hbn.sub, fun b h => (hbn.new b h).elim .inl fun h => .inr (Nat.le_trans HU.out.size h), (HU.out.mono fun _ _ h => h.elim).trans' hbn.upon fun _ _ h => h⟩
      obtain ⟨hd2, hb2⟩ := chg_step hd hbn2 (T := fun b => b = w.heap.size) (fun b h => by subst h; exact ⟨Nat.le_refl _, lt_of_block hbx⟩)
      have hch : ∀ n, ChAt (w1.drewN n) (fun b => S' b ∨ b = w.heap.size) g.fs (.del s.data.toList) (.func (.func 97) #[] #[.pointer (some ⟨w.heap.size, 0, none⟩)]) := fun n => ⟨_, s, rfl, ⟨.inr rfl, hbx⟩, rfl⟩
      have hfin := fun n => change_any (fun b => S' b ∨ b = w.heap.size) p st1 g (.del s.data.toList) _ (w1.drewN n) (hd2.kept (fun _ _ => rfl) (Nat.le_refl _)) (hch n) (by simp [okC, HL.out]) (lookN_small hd.fine HL.out) hC'
      have HF := Lib.hid hfin
      have HB2 := Lib.hid hb2
      clear hs1 hd hbn hd2 hb2 hch hfin hbn2 hbx
      go_wp2_with fail
      go_quiet (fail)
      go_wp2_with fail
      refine (HF.out _).mono ?_
      rintro e w2 ⟨rfl, hs2⟩
      have HX := Lib.hid (HB2.out.step (Step.first (quiet_upon _ _) hs2.step))
      clear hs2
      go_wp2
      go_ret
      exact ⟨rfl, HX.out⟩
set_option maxHeartbeats 3200000 in
set_option maxRecDepth 100000 in
theorem ren_any (S : Nat → Prop) (p : Nat) (st : St) (s t : ByteArray) (hs : s.size ≤ maxLen) (ht : t.size ≤ maxLen) (hC : st.C.length ≤ 1000000000) (w : World) (h : IsDisk w S p st) :
    Calls Tryd.prog 50 #[.pointer (some ⟨p, 0, none⟩), .string s, .string t] w fun e w' => e = .returned (.int .i64 (renE st s.data.toList t.data.toList)) ∧ Step S p (renS st s.data.toList t.data.toList) w w' := by
  have hu0 : Upon (fun _ => False) w ((w.alloc (.cells #[.string s] 9 (0, 0))).alloc (.cells #[.string t] 9 (0, 0))) := ((Upon.refl _ w).alloc _).alloc _
  have h0 : IsDisk ((w.alloc (.cells #[.string s] 9 (0, 0))).alloc (.cells #[.string t] 9 (0, 0))) S p st := h.upon hu0 fun _ _ h => h
  have hlt := h.lt
  cases hb : wrB st with
  | false =>
    have e1 : renE st s.data.toList t.data.toList = 11 := by simp [renE, hb]
    have e2 : renS st s.data.toList t.data.toList = wrS st := by simp [renS, hb]
    rw [e1, e2]
    have HW := Lib.hid (wr_is S p st _ h0 hb)
    have HU := Lib.hid hu0
    clear h h0 hb e1 e2 hlt hu0
    go_enter Tryd.func50, Tryd.ntmps50
    go_wp2_with fail
    refine HW.out.mono ?_
    rintro e w1 ⟨rfl, hs1⟩
    have HS := Lib.hid (Step.first HU.out hs1)
    clear hs1
    go_wp2
    go_ret
    exact ⟨rfl, HS.out⟩
  | true =>
    have HW := Lib.hid (wr_is S p st _ h0 hb)
    have HU := Lib.hid hu0
    have hbox : ∀ w1, Step S p (wrS st) ((w.alloc (.cells #[.string s] 9 (0, 0))).alloc (.cells #[.string t] 9 (0, 0))) w1 → w1.heap[w.heap.size]? = some (.cells #[.string s] 9 (0, 0)) ∧ w1.heap[w.heap.size + 1]? = some (.cells #[.string t] 9 (0, 0)) := fun w1 h1 => by
      have e1 : (w.alloc (.cells #[.string s] 9 (0, 0))).heap.size = w.heap.size + 1 := by simp
      have n2 := cell_new (w.alloc (.cells #[.string s] 9 (0, 0))) (.cells #[.string t] 9 (0, 0))
      rw [e1] at n2
      exact ⟨((h1.upon.block w.heap.size (by simp; omega) (fun hS => by have := hlt _ hS; omega)).trans (Below.heap_alloc _ _ _ (by simp))).trans (cell_new w _), (h1.upon.block (w.heap.size + 1) (by simp) (fun hS => by have := hlt _ hS; omega)).trans n2⟩
    have HB := Lib.hid hbox
    cases hl : lookN st.N s.data.toList with
    | none =>
      have e1 : renE st s.data.toList t.data.toList = 12 := by simp [renE, hb, hl]
      have e2 : renS st s.data.toList t.data.toList = wrS st := by simp [renS, hl]
      rw [e1, e2]
      have HL := Lib.hid (show lookN (wrS st).N s.data.toList = none by rw [wrS_N]; exact hl)
      clear h h0 hb e1 e2 hlt hu0 hl hbox
      go_enter Tryd.func50, Tryd.ntmps50
      go_wp2_with fail
      refine HW.out.mono ?_
      rintro e w1 ⟨rfl, hs1⟩
      have HS := Lib.hid (Step.first HU.out hs1)
      have cb := cell_of_one (HB.out w1 hs1).1
      obtain ⟨S', g, hd, hbn⟩ := hs1.get
      obtain ⟨-, -, -, k3, -, -, -⟩ := c6 hd.cell
      have hlk := fun n => run_look_none (w := w1.drewN n) (hd.now.kept rfl) hs HL.out
      clear hs1 hd hbn
      go_wp2_with fail
      go_quiet (fail)
      go_wp2
      go_ret
      exact ⟨rfl, HS.out.then (quiet_upon _ _)⟩
    | some i =>
      have HL := Lib.hid (show lookN (wrS st).N s.data.toList = some i by rw [wrS_N]; exact hl)
      cases hn : isName t.data.toList with
      | false =>
        have e1 : renE st s.data.toList t.data.toList = 3 := by simp [renE, hb, hl, hn]
        have e2 : renS st s.data.toList t.data.toList = wrS st := by simp [renS, hn]
        rw [e1, e2]
        have HN := Lib.hid (name_is t ht hn)
        clear h h0 hb e1 e2 hlt hu0 hl hbox hn
        go_enter Tryd.func50, Tryd.ntmps50
        go_wp2_with fail
        refine HW.out.mono ?_
        rintro e w1 ⟨rfl, hs1⟩
        have HS := Lib.hid (Step.first HU.out hs1)
        have cb := cell_of_one (HB.out w1 hs1).1
        have cb2 := cell_of_one (HB.out w1 hs1).2
        obtain ⟨S', g, hd, hbn⟩ := hs1.get
        obtain ⟨-, -, -, k3, -, -, -⟩ := c6 hd.cell
        have hlk := fun n => run_look_some (w := w1.drewN n) (hd.now.kept rfl) hs HL.out
        clear hs1 hd hbn
        go_wp2_with fail
        go_quiet (fail)
        go_wp2_with fail
        refine (HN.out _).mono ?_
        rintro e w2 ⟨rfl, rfl⟩
        go_wp2
        go_ret
        exact ⟨rfl, HS.out.then (quiet_upon _ _)⟩
      | true =>
        have e1 : renE st s.data.toList t.data.toList = 0 := by simp [renE, hb, hl, hn]
        have e2 : renS st s.data.toList t.data.toList = chg (wrS st) (.move s.data.toList t.data.toList i) := by simp [renS, hb, hl, hn]
        rw [e1, e2]
        have HN := Lib.hid (name_is t ht hn)
        have HT := Lib.hid (show nameOk t.data.toList by unfold isName at hn; simp at hn; simp [nameOk]; omega)
        have hC' : (wrS st).C.length ≤ 1000000000 := by rw [wrS_C]; exact hC
        clear h h0 hb e1 e2 hlt hu0 hl hbox hC hn
        obtain ⟨st1, hst1⟩ : ∃ s, s = wrS st := ⟨_, rfl⟩
        rw [← hst1] at HW HB HL hC' ⊢
        clear hst1
        go_enter Tryd.func50, Tryd.ntmps50
        go_wp2_with fail
        refine HW.out.mono ?_
        rintro e w1 ⟨rfl, hs1⟩
        obtain ⟨hbx, hby⟩ := HB.out w1 hs1
        have cb := cell_of_one hbx
        have cb2 := cell_of_one hby
        obtain ⟨S', g, hd, hbn⟩ := hs1.get
        obtain ⟨-, -, -, k3, -, -, -⟩ := c6 hd.cell
        have hlk := fun n => run_look_some (w := w1.drewN n) (hd.now.kept rfl) hs HL.out
        have hbn2 : Been S S' w w1 := ⟨hbn.sub, fun b h => (hbn.new b h).elim .inl fun h => .inr (Nat.le_trans HU.out.size h), (HU.out.mono fun _ _ h => h.elim).trans' hbn.upon fun _ _ h => h⟩
        obtain ⟨hd2, hb2⟩ := chg_step hd hbn2 (T := fun b => b = w.heap.size ∨ b = w.heap.size + 1) (fun b h => by
          rcases h with h | h
          · subst h; exact ⟨Nat.le_refl _, lt_of_block hbx⟩
          · subst h; exact ⟨by omega, lt_of_block hby⟩)
        have hch : ∀ n, ChAt (w1.drewN n) (fun b => S' b ∨ (b = w.heap.size ∨ b = w.heap.size + 1)) g.fs (.move s.data.toList t.data.toList i) (.func (.func 83) #[] #[.pointer (some ⟨w.heap.size, 0, none⟩), .pointer (some ⟨w.heap.size + 1, 0, none⟩)]) := fun n => ⟨_, _, s, t, rfl, ⟨.inr (.inl rfl), hbx⟩, ⟨.inr (.inr rfl), hby⟩, rfl, rfl⟩
        have hfin := fun n => change_any (fun b => S' b ∨ (b = w.heap.size ∨ b = w.heap.size + 1)) p st1 g (.move s.data.toList t.data.toList i) _ (w1.drewN n) (hd2.kept (fun _ _ => rfl) (Nat.le_refl _)) (hch n) HL.out ⟨lookN_small hd.fine HL.out, HT.out, hd.fine.nmN.ins _ (mem_of_look HL.out)⟩ hC'
        have HF := Lib.hid hfin
        have HB2 := Lib.hid hb2
        clear hs1 hd hbn hd2 hb2 hch hfin hbn2 hbx hby
        go_wp2_with fail
        go_quiet (fail)
        go_wp2_with fail
        refine (HN.out _).mono ?_
        rintro e w2 ⟨rfl, rfl⟩
        go_wp2_with fail
        refine (HF.out _).mono ?_
        rintro e w2 ⟨rfl, hs2⟩
        have HX := Lib.hid (HB2.out.step (Step.first (quiet_upon _ _) hs2.step))
        clear hs2
        go_wp2
        go_ret
        exact ⟨rfl, HX.out⟩
end Dsk
end Go.Proofs.YtjpgglajcelllaaDoor
end
