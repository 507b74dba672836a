/- (*Disk).settle and (*Disk).SyncNames (layer 4): changes of names are done again to the names that last. -/
import Derived.Test.YtfpphahdbhelcaaDiskUsed
namespace Go.Proofs.Ytfpphahdbhelcaa
open Go.RowKit
namespace Dsk
open Go.Maps

/-- What settle leaves. -/
def Settled (S : Nat → Prop) (p : Nat) (st : St) (w : World) (e : Ending) (w' : World) : Prop :=
  e = .returned (.tuple #[]) ∧ (∃ g, DiskM w' S p st g) ∧ Upon S w w'

theorem take_snoc' {α : Type} {l : List α} {j : Nat} {c : α} (h : l[j]? = some c) : l.take (j + 1) = l.take j ++ [c] := by
  obtain ⟨hl, rfl⟩ := List.getElem?_eq_some_iff.1 h
  exact List.take_succ_eq_append_getElem hl

theorem settle_end {w wr : World} {S : Nat → Prop} {p : Nat} {st : St} {g : Ghost} {n : Nat} (h : DiskM w S p st g) (hm : MapAt wr g.bl g.fs ((st.C.take n).foldl appC st.L)) (hu : w.grownBy wr (some g.bl)) :
    wr.cell? ⟨p, 5, none⟩ = some g.cv ∧ wr.frozen? ⟨p, 5, none⟩ = false ∧ (∃ g', DiskM (wr.setCell ⟨p, 5, none⟩ (.slice none 0 0)) S p (settle st n) g') ∧ Upon S w (wr.setCell ⟨p, 5, none⟩ (.slice none 0 0)) := by
  have hpl := ne_of_map h.last h.cell
  have hp : wr.heap[p]? = some (.cells (cellsOf st g) 60 (0, 0)) := (hu.block p (h.lt p h.s_p) (fun e => hpl (Option.some.inj e))).trans h.cell
  have hk : ∀ b, b < w.heap.size → b ≠ p → b ≠ g.bl → (wr.setCell ⟨p, 5, none⟩ (.slice none 0 0)).heap[b]? = w.heap[b]? := fun b hb h1 h2 => by
    rw [Below.heap_setCell _ _ _ _ h1]; exact hu.block b hb (fun e => h2 (Option.some.inj e))
  have hc : ∀ (b : Nat) c T z, S b → w.heap[b]? = some (Obj.cells c T z) → T ≠ 60 → (wr.setCell ⟨p, 5, none⟩ (.slice none 0 0)).heap[b]? = w.heap[b]? := fun b c T z hS hb hT =>
    hk b (h.lt b hS) (by rintro rfl; rw [h.cell] at hb; simp at hb; exact hT hb.2.1.symm) (ne_of_map h.last hb)
  obtain ⟨-, -, -, -, -, c5, cf⟩ := c6 hp
  refine ⟨c5, cf 5, ⟨{ g with cv := .slice none 0 0, cvs := [] }, ?_⟩, ((Upon.refl S w).grown hu (fun k e => by cases e; exact .inl h.s_l)).setCell (p := ⟨p, 5, none⟩) (.inl h.s_p) _⟩
  exact {
    cell := by rw [set6 hp]; rfl
    fuse := h.fuse
    wf := h.wf
    wr := h.wr
    now := map_kept_cells h.now fun es clock hb => hk _ h.now.lt (by intro e; rw [e, h.cell] at hb; cases hb) h.two
    last := hm.kept (Below.heap_setCell _ _ _ _ (fun e => hpl e.symm))
    two := h.two
    files := files_keptB h.files fun b c T z hS hb hT => hc b c T z hS hb (by rintro rfl; rcases hT with e | e <;> cases e)
    chs := ChsAt.none _ _ _
    s_p := h.s_p
    s_n := h.s_n
    s_l := h.s_l
    lt := fun b hb => by have := h.lt b hb; have := hu.size; simp [World.setCell]; omega }

theorem DiskM.cvNil {w : World} {S : Nat → Prop} {p : Nat} {st : St} {g : Ghost} (h : DiskM w S p st g) : (w.cell? ⟨p, 5, none⟩ = some (.slice none 0 0) → g.cv = .slice none 0 0) ∧ True := by
  obtain ⟨-, -, -, -, -, c5, -⟩ := c6 h.cell
  exact ⟨fun e => by rw [c5] at e; exact Option.some.inj e, trivial⟩

/-- How far settle has come. -/
def Upto (st : St) (g : Ghost) (w : World) (n : Nat) (i : Value) (wr : World) : Prop :=
  ∃ j : Nat, j ≤ n ∧ i = .int .i64 (j : Int) ∧ MapAt wr g.bl g.fs ((st.C.take j).foldl appC st.L) ∧ w.grownBy wr (some g.bl)

set_option maxHeartbeats 3200000 in
set_option maxRecDepth 100000 in
theorem settle_any (S : Nat → Prop) (p : Nat) (st : St) (n : Nat) (hn : n ≤ st.C.length) (w : World) (h : IsDisk w S p st) :
    Calls Try.prog 44 #[.pointer (some ⟨p, 0, none⟩), .int .i64 (n : Int)] w (Settled S p (settle st n) w) := by
  obtain ⟨g, h⟩ := h
  obtain ⟨-, -, -, -, k4, k5, -⟩ := c6 h.cell
  have hcell := h.cell
  have hpl := ne_of_map h.last h.cell
  have hplt := h.lt p h.s_p
  have HP := Lib.hid hcell
  have HPL := Lib.hid hpl
  have HD := Lib.hid h.toDiskM
  have HF := Lib.hid h.fine
  rcases h.chs.row.2 with ⟨hv, h0⟩ | ⟨gb, cap, cur, hv, _, hgb, hnc, hcm, hcs, htk⟩
  · have hn0 : n = 0 := by omega
    subst hn0
    rw [hv] at k5
    have HE := Lib.hid (settle_end (n := 0) h.toDiskM (by simpa using h.last) ⟨rfl, rfl, rfl, Nat.le_refl _, fun _ _ _ => rfl⟩)
    clear hcell hpl h hv h0
    go_enter Try.func44, Try.ntmps44
    go_wp2
    refine wp_loop_rounds 1 ?_
    rw [rounds_succ]
    obtain ⟨c5, f5, hg, hu⟩ := HE.out
    rw [HD.out.cvNil.1 k5] at c5
    have HX := Lib.hid (And.intro hg hu)
    clear hg hu HE
    go_wp2
    go_end0
    exact ⟨rfl, HX.out⟩
  · have hgl := ne_of_map h.last hgb
    have hgS := h.chs.s_c gb (by rw [hv]; rfl)
    rw [hv] at k5
    have hcells := h.chs.row.cells (g := gb) (by rw [hv]; rfl)
    have HCE := Lib.hid hcells
    have HGB := Lib.hid hgb
    have HGL := Lib.hid hgl
    have HV := Lib.hid hv
    have HL0 := Lib.hid h.last
    have HCH := Lib.hid h.chs
    have hlenC : (g.cvs).length = st.C.length := by simpa using h.chs.row.1
    replace hlenC := Lib.hid hlenC
    unfold maxLen at hcm
    have hncap : (n : Int) ≤ (cap : Int) := by omega
    clear hcell hpl h hv hcells hgb hgl hcs htk
    go_enter Try.func44, Try.ntmps44
    go_wp2
    go_loopw [13] (fun i wr => Upto st g w n i wr) (fun i _ => n - (intOf i).toNat)
    case atStart => exact ⟨0, Nat.zero_le _, rfl, by simpa using HL0.out, rfl, rfl, rfl, Nat.le_refl _, fun _ _ _ => rfl⟩
    case round =>
      obtain ⟨j, hj, rfl, hm, hgr⟩ := hrel
      have hp : wr.heap[p]? = some (.cells (cellsOf st g) 60 (0, 0)) := (hgr.block p hplt (fun e => HPL.out (Option.some.inj e))).trans HP.out
      obtain ⟨-, -, -, -, q4, q5, qf⟩ := c6 hp
      have HM := Lib.hid hm
      have HG := Lib.hid hgr
      by_cases hlt : j < n
      · obtain ⟨c, hc⟩ : ∃ c, st.C[j]? = some c := ⟨_, List.getElem?_eq_getElem (by omega)⟩
        obtain ⟨v, hcv, hch⟩ := HCH.out.ch j c hc
        have hcj : wr.cell? ⟨gb, j, none⟩ = some v := by
          have := HCE.out j v hcv
          have e : (⟨gb, 0, none⟩ : Addr).add j = ⟨gb, j, none⟩ := by unfold Addr.add; split <;> simp_all
          rw [e] at this
          rw [← this]
          exact World.cell?_of_block (hgr.block gb (lt_of_block HGB.out) (fun e => HGL.out (Option.some.inj e)))
        have hch' : ChAt wr S g.fs c v := hch.keptB fun b x T hT hb => hgr.block b (lt_of_block hb.2) (fun e => ne_of_map HL0.out hb.2 (Option.some.inj e))
        have hok := good_at j HF.out.good hc
        have hnm := (HF.out.nmK j).len
        have hcl := clo_at hch' hok (HF.out.chs c (List.mem_of_getElem? hc)) hm (by omega)
        have hnext : ∀ w1, CloPost g.bl g.fs (appC ((st.C.take j).foldl appC st.L) c) wr (.returned (.tuple #[])) w1 → Upto st g w n (.int .i64 ((j + 1 : Nat) : Int)) w1 := by
          rintro w1 ⟨_, h1, h2⟩
          refine ⟨j + 1, by omega, rfl, ?_, hgr.andThen h2 (fun _ e => .inr e)⟩
          rw [take_snoc' hc, List.foldl_append]
          exact h1
        have HX := Lib.hid hnext
        clear hp hm hgr q5 qf hc hcv hch hch' hok hnext
        rcases hcl with ⟨bf, bk, rfl, hcl⟩ | ⟨bf, bk, rfl, hcl⟩ | ⟨bf, rfl, hcl⟩
        all_goals
          replace hcl := Lib.hid hcl
          go_wp2_with fail
          refine hcl.out.mono ?_
          rintro e w1 hpost
          obtain rfl : e = .returned (.tuple #[]) := hpost.1
          have HY := Lib.hid (HX.out w1 hpost)
          clear hpost
          go_wp2
          go_roundw
          case rel => exact HY.out
          case measure => simp [intOf]; omega
      · obtain rfl : j = n := by omega
        obtain ⟨e5, f5, hE, hU⟩ := settle_end HD.out hm hgr
        rw [HV.out] at e5
        have HX := Lib.hid (And.intro hE hU)
        clear hp hm hgr q5 qf hE hU
        go_wp2
        go_end0
        exact ⟨rfl, HX.out⟩

theorem settled_all {S : Nat → Prop} {p : Nat} {st : St} {w w' : World} (hf : Fine st) (h : (∃ g, DiskM w' S p (settle st st.C.length) g) ∧ Upon S w w') : Step S p (settle st st.C.length) w w' := by
  obtain ⟨⟨g, hg⟩, hu⟩ := h
  exact ⟨⟨S, ⟨g, { hg with fine := hf.settle _ (Nat.le_refl _) }⟩, fun _ h => h, fun _ h => .inl h⟩, hu⟩

set_option maxHeartbeats 1600000 in
theorem sn_any (S : Nat → Prop) (p : Nat) (st : St) (w : World) (h : IsDisk w S p st) :
    Calls Try.prog 22 #[.pointer (some ⟨p, 0, none⟩)] w fun e w' => e = .returned (.int .i64 (snE st)) ∧ Step S p (snS st) w w' := by
  cases hb : wrB st with
  | false =>
    have e1 : snE st = 11 := by simp [snE, hb]
    have e2 : snS st = wrS st := by simp [snS, hb]
    rw [e1, e2]
    have HW := Lib.hid (wr_is S p st w h hb)
    clear h hb e1 e2
    go_enter Try.func22, Try.ntmps22
    go_wp2_with fail
    refine HW.out.mono ?_
    rintro e w1 ⟨rfl, hs1⟩
    replace hs1 := Lib.hid hs1
    go_wp2
    go_ret
    exact ⟨rfl, hs1.out⟩
  | true =>
    have e1 : snE st = 0 := by simp [snE, hb]
    have e2 : snS st = settle (wrS st) (wrS st).C.length := by simp [snS, hb, wrS_C]
    rw [e1, e2]
    have HW := Lib.hid (wr_is S p st w h hb)
    clear h hb e1 e2
    obtain ⟨st1, hst1⟩ : ∃ s, s = wrS st := ⟨_, rfl⟩
    rw [← hst1] at HW ⊢
    clear hst1
    go_enter Try.func22, Try.ntmps22
    go_wp2_with fail
    refine HW.out.mono ?_
    rintro e w1 ⟨rfl, hs1⟩
    obtain ⟨S', g, hd, hbn⟩ := hs1.get
    obtain ⟨-, -, -, -, -, k5, -⟩ := c6 hd.cell
    obtain ⟨a, c, hcv⟩ : ∃ a c, g.cv = .slice a st1.C.length c := by
      rcases hd.chs.row.2 with ⟨hv, h0⟩ | ⟨gb, cap, cur, hv, _⟩
      · exact ⟨none, 0, by rw [hv, h0]⟩
      · exact ⟨_, _, hv⟩
    rw [hcv] at k5
    have HS := Lib.hid (settle_any S' p st1 st1.C.length (Nat.le_refl _) w1 ⟨g, hd⟩)
    have HB := Lib.hid hbn
    have HF := Lib.hid hd.fine
    clear hs1 hd hbn hcv
    go_wp2_with fail
    refine HS.out.mono ?_
    rintro e w2 ⟨rfl, hset⟩
    have HX := Lib.hid (HB.out.step (settled_all HF.out hset))
    clear hset
    go_wp2
    go_ret
    exact ⟨rfl, HX.out⟩
end Dsk
end Go.Proofs.Ytfpphahdbhelcaa
