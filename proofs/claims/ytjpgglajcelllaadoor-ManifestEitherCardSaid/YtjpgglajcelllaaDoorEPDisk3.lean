/- Parts, put together: DiskApp, DiskLay, DiskPick, DiskCrash, DiskCrash2, DiskWorks, DiskOpen. -/
import Derived.Test.YtjpgglajcelllaaDoorEPDisk2
import Derived.RegionTactic
import Derived.ChangeAlike
import Derived.Lib.QuietBelow
import Derived.Outline
import Derived.Shelf.SlIter.Nil
import Derived.Shelf.SortM.Plain
import Derived.Shelf.SortM.SortNone
import Derived.Shelf.SlMaps.Clone
import Derived.Ground.GgzProg
import Derived.Ground.SlgmProg
import Derived.Ground.SlmcProg
import Derived.Shelf.SlGeneric
import Derived.Deep.RegionWith
import Derived.Deep.CutRange
import Derived.LoopTactic
import Derived.Deep.CutBlock
import Derived.ChangeSlices
import Derived.OpenShut
import Derived.Laws.AppendOwn
set_option maxRecDepth 100000
/- (*Disk).Append (layer 4). -/
section
namespace Go.Proofs.YtjpgglajcelllaaDoor
open Go.RowKit Go.Sort
namespace Dsk
open Go.Maps
set_option maxHeartbeats 3200000 in
set_option maxRecDepth 100000 in
theorem app_dead (S : Nat → Prop) (p : Nat) (st : St) (s t : ByteArray) (w : World) (h : IsDisk w S p st) (hb : wrB st = false) :
    Calls Tryd.prog 27 #[.pointer (some ⟨p, 0, none⟩), .string s, .string t] w fun e w' => e = .returned (.int .i64 11) ∧ Step S p (wrS st) w w' := by
  have hu0 : Upon (fun _ => False) w (w.alloc (.cells #[.string s] 9 (0, 0))) := (Upon.refl _ w).alloc _
  have h0 : IsDisk (w.alloc (.cells #[.string s] 9 (0, 0))) S p st := h.upon hu0 fun _ _ h => h
  have HW := Lib.hid (wr_is S p st _ h0 hb)
  have HU := Lib.hid hu0
  clear h h0 hb hu0
  go_enter Tryd.func27, Tryd.ntmps27
  go_wp2_with fail
  refine HW.out.mono ?_
  rintro e w1 ⟨rfl, hs1⟩
  have HS := Lib.hid (Step.first HU.out hs1)
  clear hs1
  go_wp2
  go_ret
  exact ⟨rfl, HS.out⟩
theorem box_of {S : Nat → Prop} {p : Nat} {st : St} {w w1 : World} {x : Obj} (hlt : ∀ b, S b → b < w.heap.size) (h1 : Step S p st (w.alloc x) w1) : w1.heap[w.heap.size]? = some x :=
  (h1.upon.block w.heap.size (by simp) (fun hS => by have := hlt _ hS; omega)).trans (cell_new w _)
set_option maxHeartbeats 3200000 in
set_option maxRecDepth 100000 in
theorem app_noname (S : Nat → Prop) (p : Nat) (st : St) (s t : ByteArray) (hs : s.size ≤ maxLen) (w : World) (h : IsDisk w S p st) (hb : wrB st = true) (hn : isName s.data.toList = false) :
    Calls Tryd.prog 27 #[.pointer (some ⟨p, 0, none⟩), .string s, .string t] w fun e w' => e = .returned (.int .i64 3) ∧ Step S p (wrS st) w w' := by
  have hu0 : Upon (fun _ => False) w (w.alloc (.cells #[.string s] 9 (0, 0))) := (Upon.refl _ w).alloc _
  have h0 : IsDisk (w.alloc (.cells #[.string s] 9 (0, 0))) S p st := h.upon hu0 fun _ _ h => h
  have HW := Lib.hid (wr_is S p st _ h0 hb)
  have HU := Lib.hid hu0
  have HLT := Lib.hid h.lt
  have HN := Lib.hid (name_is s hs hn)
  clear h h0 hb hu0 hn
  go_enter Tryd.func27, Tryd.ntmps27
  go_wp2_with fail
  refine HW.out.mono ?_
  rintro e w1 ⟨rfl, hs1⟩
  have HS := Lib.hid (Step.first HU.out hs1)
  have cb := cell_of_one (box_of HLT.out hs1)
  clear hs1
  go_wp2_with fail
  refine (HN.out _).mono ?_
  rintro e w2 ⟨rfl, rfl⟩
  go_wp2
  go_ret
  exact ⟨rfl, HS.out⟩
/-- What is laid ahead of the test whether there is room: at the world w2 behind the look-up. -/
structure Room (w2 : World) (S : Nat → Prop) (p b7 : Nat) (st : St) (g : Ghost) (x : Value) (z : Nat) : Prop where
  disk : DiskG w2 S p st g
  box : w2.heap[b7]? = some (.cells #[x] 96 (0, 0))
  cell0 : ∀ d os, (grow (redrawn w2 d) os).cell? ⟨p, 0, none⟩ = some (.int .i64 st.room)
  cell3 : ∀ d os, (grow (redrawn w2 d) os).cell? ⟨p, 3, none⟩ = some (.map (some g.bn))
  cell7 : ∀ d os, (grow (redrawn w2 d) os).cell? ⟨b7, 0, none⟩ = some x
  len : ∀ d os ty, (Builtin.len_ #[85] ty #[.map (some g.bn)]).run Tryd.prog (grow (redrawn w2 d) os) = .ok (.int .i64 st.N.length) (grow (redrawn w2 d) os)
  used : ∀ d os, Calls Tryd.prog 62 #[.pointer (some ⟨p, 0, none⟩)] (grow (redrawn w2 d) os) fun e w' => e = .returned (.int .i64 (used st : Int)) ∧ Below (grow (redrawn w2 d) os).heap.size (grow (redrawn w2 d) os) w'
  wrap : IntKind.i64.wrap ((Dsk.used st : Int) + (z : Int)) = (Dsk.used st : Int) + (z : Int)
theorem room_of {w1 : World} {S : Nat → Prop} {p : Nat} {st : St} {g : Ghost} (hd : DiskG w1 S p st g) (x : Value) (z : Nat) (hu : used st + z ≤ 4000000000000000000) :
    Room (w1.alloc (.cells #[x] 96 (0, 0))).drew S p w1.heap.size st g x z := by
  have hup : Upon (fun _ => False) w1 (w1.alloc (.cells #[x] 96 (0, 0))).drew := Upon.drew ((Upon.refl _ w1).alloc _)
  have hd2 : DiskG (w1.alloc (.cells #[x] 96 (0, 0))).drew S p st g := hd.kept (fun b hb => hup.block b (hd.lt b hb) fun h => h) hup.size
  obtain ⟨k0, -, -, k3, -, -, -⟩ := c6 hd2.cell
  have hb : (w1.alloc (.cells #[x] 96 (0, 0))).drew.heap[w1.heap.size]? = some (.cells #[x] 96 (0, 0)) := cell_new w1 _
  have hk : ∀ d os, DiskG (grow (redrawn (w1.alloc (.cells #[x] 96 (0, 0))).drew d) os) S p st g := fun d os =>
    hd2.kept (fun b hb => (below_regrown _ d os).block b (hd2.lt b hb)) (below_regrown _ d os).size
  refine ⟨hd2, hb, fun d os => cell_regrown k0 d os, fun d os => cell_regrown k3 d os, fun d os => cell_regrown (cell_of_one hb) d os, fun d os ty => ?_, fun d os => ?_, IntWalk.i64_in _ (by omega)⟩
  · have := World.ownsMap.len (hk d os).now Tryd.underlying85 ty
    rw [toD_size] at this
    exact this
  · exact (used_any S p st _ ⟨g, hk d os⟩ (by omega)).mono fun e w' ⟨h1, h2⟩ => ⟨h1, h2.below (Nat.le_refl _) (fun _ h => h.elim)⟩
theorem DiskG.newFile {w w' : World} {S T : Nat → Prop} {p : Nat} {st : St} {g : Ghost} {b : Nat} (h : DiskG w S p st g) (hb : FileAt w' b none [] 0) (hn : w.heap.size ≤ b) (hk : ∀ c, S c → w'.heap[c]? = w.heap[c]?)
    (hS : ∀ c, more S w w' c → T c) (hT : ∀ c, T c → c < w'.heap.size) : DiskG w' T p { st with F := st.F ++ [⟨[], 0⟩] } { g with fs := g.fs ++ [b], rows := g.rows ++ [none] } := by
  have hS' : ∀ c, S c → T c := fun c hc => hS c (.inl hc)
  have hL := h.fine.nmL'
  have hN := h.fine.nmN
  exact {
    fine := ⟨h.fine.rising, h.fine.now, h.fine.good, fun q hq => by have := h.fine.ins q hq; simp; omega, h.fine.len, h.fine.nmL, fun c hc => (h.fine.chs c hc).mono (by simp), fun f hf => by
      rcases List.mem_append.1 hf with hf | hf
      · exact h.fine.lasts f hf
      · simp at hf; subst hf; exact Nat.le_refl _, h.fine.left⟩
    cell := (hk p h.s_p).trans h.cell
    fuse := h.fuse
    wf := h.wf
    wr := h.wr
    now := (h.now.kept (hk _ h.s_n)).more (fun q hq => by rw [h.files.flen]; exact hN.ins q hq) _
    last := (h.last.kept (hk _ h.s_l)).more (fun q hq => by rw [h.files.flen]; exact hL.ins q hq) _
    two := h.two
    files := (h.files.snoc hb hn hk).mono hS
    chs := ((h.chs.kept hk).more (fun c hc => by rw [h.files.flen]; exact h.fine.chs c hc) _).mono hS'
    s_p := hS' _ h.s_p
    s_n := hS' _ h.s_n
    s_l := hS' _ h.s_l
    lt := hT }
theorem modify_snoc {α : Type} (l : List α) (x : α) (q : α → α) : (l ++ [x]).modify l.length q = l ++ [q x] := by
  apply List.ext_getElem?
  intro i
  rw [List.getElem?_modify]
  rcases Nat.lt_trichotomy i l.length with h | h | h
  · rw [List.getElem?_append_left h, List.getElem?_append_left h]
    have : ¬ l.length = i := by omega
    simp [this]
  · subst h; simp
  · have h1 : l.length + 1 ≤ i := h
    rw [List.getElem?_eq_none (by simpa using h1), List.getElem?_eq_none (by simpa using h1)]; rfl
/-- Behind the call of change: the new file may be written. -/
def NewReady (S : Nat → Prop) (p b7 fb : Nat) (st : St) (k t : Str) (w w5 : World) : Prop :=
  w5.heap[b7]? = some (.cells #[.pointer (some ⟨fb, 0, none⟩)] 96 (0, 0)) ∧ ∃ r, FileAt w5 fb r [] 0 ∧ ∀ w6, Wrote fb r t 0 w5 w6 → Step S p (addF st k t) w w6
theorem new_file {S S' : Nat → Prop} {p : Nat} {st : St} {g : Ghost} {s : ByteArray} {w w1 w3 : World} (t : Str) (hd : DiskG w1 S' p st g) (hbn : Been S S' w w1) (hbx : w1.heap[w.heap.size]? = some (.cells #[.string s] 9 (0, 0)))
    (hup : Upon (fun _ => False) w1 w3) (hb7 : w3.heap[w1.heap.size]? = some (.cells #[.pointer none] 96 (0, 0))) (hl : lookN st.N s.data.toList = none) (hn : isName s.data.toList = true) (h64 : st.N.length ≠ 64) (hC : st.C.length ≤ 1000000000) :
    Calls Tryd.prog 63 #[.pointer (some ⟨p, 0, none⟩), .func (.func 64) #[] #[.pointer (some ⟨w1.heap.size, 0, none⟩), .pointer (some ⟨w.heap.size, 0, none⟩)]]
      ((w3.setCell ⟨w1.heap.size, 0, none⟩ (.pointer (some ⟨w3.heap.size, 0, none⟩))).alloc (.cells #[.pointer none, .slice none 0 0, .int .i64 0] 102 (0, 0)))
      fun e w5 => e = .returned (.tuple #[]) ∧ NewReady S p w1.heap.size w3.heap.size st s.data.toList t w w5 := by
  have l7 := lt_of_block hb7
  have lx := lt_of_block hbx
  obtain ⟨w4, hw4⟩ : ∃ x, x = (w3.setCell ⟨w1.heap.size, 0, none⟩ (.pointer (some ⟨w3.heap.size, 0, none⟩))).alloc (.cells #[.pointer none, .slice none 0 0, .int .i64 0] 102 (0, 0)) := ⟨_, rfl⟩
  rw [← hw4]
  have s4 : w4.heap.size = w3.heap.size + 1 := by rw [hw4]; simp [World.setCell]
  have hup4 : Upon (fun _ => False) w1 w4 := by
    rw [hw4]
    exact (hup.setCell (p := ⟨w1.heap.size, 0, none⟩) (.inr (Nat.le_refl _)) _).alloc _
  have b7' : w4.heap[w1.heap.size]? = some (.cells #[.pointer (some ⟨w3.heap.size, 0, none⟩)] 96 (0, 0)) := by
    rw [hw4, Below.heap_alloc _ _ _ (by simp [World.setCell]; omega)]; exact one_setCell hb7
  have bf' : w4.heap[w3.heap.size]? = some (.cells #[.pointer none, .slice none 0 0, .int .i64 0] 102 (0, 0)) := by
    have e := cell_new (w3.setCell ⟨w1.heap.size, 0, none⟩ (.pointer (some ⟨w3.heap.size, 0, none⟩))) (.cells #[.pointer none, .slice none 0 0, .int .i64 0] 102 (0, 0))
    have e2 : (w3.setCell ⟨w1.heap.size, 0, none⟩ (.pointer (some ⟨w3.heap.size, 0, none⟩))).heap.size = w3.heap.size := by simp [World.setCell]
    rw [e2] at e
    rw [hw4]; exact e
  have bx' : w4.heap[w.heap.size]? = some (.cells #[.string s] 9 (0, 0)) := (hup4.block _ lx (fun h => h)).trans hbx
  have hfile : FileAt w4 w3.heap.size none [] 0 := ⟨_, _, .inl rfl, bf', BufAt.nil _⟩
  have hT : ∀ c, (S' c ∨ c = w.heap.size ∨ (w1.heap.size ≤ c ∧ c < w4.heap.size)) → c < w4.heap.size := by
    rintro c (h | h | h)
    · exact Nat.lt_of_lt_of_le (hd.lt c h) hup4.size
    · rw [h]; have := hup4.size; omega
    · exact h.2
  have hd4 := hd.newFile (T := fun c => S' c ∨ c = w.heap.size ∨ (w1.heap.size ≤ c ∧ c < w4.heap.size)) hfile hup.size (fun c hc => hup4.block c (hd.lt c hc) (fun h => h)) (fun c hc => hc.elim .inl fun h => .inr (.inr h)) hT
  have hbn4 : Been S (fun c => S' c ∨ c = w.heap.size ∨ (w1.heap.size ≤ c ∧ c < w4.heap.size)) w w4 := by
    refine ⟨fun c h => .inl (hbn.sub c h), ?_, hbn.upon.trans' hup4 fun _ _ h => h.elim⟩
    rintro c (h | h | h)
    · exact hbn.new c h
    · exact .inr (by rw [h]; exact Nat.le_refl _)
    · exact .inr (Nat.le_trans hbn.upon.size h.1)
  have hfs : blk (g.fs ++ [w3.heap.size]) st.F.length = w3.heap.size := by rw [← hd.files.flen]; exact blk_snoc_eq
  have hnm : nameOk s.data.toList := by unfold isName at hn; simp at hn; simp [nameOk]; omega
  have hlen := hd.fine.nmN.len
  have hch : ChAt w4 (fun c => S' c ∨ c = w.heap.size ∨ (w1.heap.size ≤ c ∧ c < w4.heap.size)) (g.fs ++ [w3.heap.size]) (.put s.data.toList st.F.length)
      (.func (.func 64) #[] #[.pointer (some ⟨w1.heap.size, 0, none⟩), .pointer (some ⟨w.heap.size, 0, none⟩)]) :=
    ⟨w1.heap.size, w.heap.size, s, rfl, ⟨.inr (.inr ⟨Nat.le_refl _, by have := hup.size; omega⟩), by rw [hfs]; exact b7'⟩, ⟨.inr (.inl rfl), bx'⟩, rfl⟩
  refine (change_any _ p _ _ (.put s.data.toList st.F.length) _ w4 hd4 hch ⟨hl, by show st.N.length < 64; omega⟩ ⟨hnm, by simp⟩ hC).mono ?_
  rintro e w5 ⟨rfl, hst⟩
  refine ⟨rfl, (hst.boxes _ _ _ _ b7' (.inl rfl)).trans b7', ?_⟩
  obtain ⟨S5, g5, hd5, hg5, h2, h3⟩ := hst.disk
  have hbn5 : Been (fun c => S' c ∨ c = w.heap.size ∨ (w1.heap.size ≤ c ∧ c < w4.heap.size)) S5 w4 w5 := ⟨h2, h3, hst.upon⟩
  have hi : (chg { st with F := st.F ++ [⟨[], 0⟩] } (.put s.data.toList st.F.length)).F[st.F.length]? = some ⟨[], 0⟩ := by simp [chg]
  have hff := hd5.files.file st.F.length ⟨[], 0⟩ hi
  have hb5 : blk g5.fs st.F.length = w3.heap.size := by rw [hg5]; exact hfs
  rw [hb5] at hff
  refine ⟨_, hff, fun w6 hw => ?_⟩
  have hw' : Wrote (blk g5.fs st.F.length) (g5.rows.getD st.F.length none) t 0 w5 w6 := by rw [hb5]; exact hw
  have hstep := hd5.wrote hi hw' (q := fun f => { f with s := f.s ++ t }) rfl (hd5.fine.modF _ _ fun f hf => by simp; omega)
  have e : ({ chg { st with F := st.F ++ [⟨[], 0⟩] } (.put s.data.toList st.F.length) with F := (chg { st with F := st.F ++ [⟨[], 0⟩] } (.put s.data.toList st.F.length)).F.modify st.F.length fun f => { f with s := f.s ++ t } } : St) = addF st s.data.toList t := by
    unfold addF chg
    rw [hl]
    simp only [modify_snoc]
    rfl
  rw [e] at hstep
  exact hbn4.step (hbn5.step hstep)
set_option maxHeartbeats 3200000 in
set_option maxRecDepth 100000 in
theorem app_full_some (S : Nat → Prop) (p : Nat) (st : St) (s t : ByteArray) (hs : s.size ≤ maxLen) (w : World) (h : IsDisk w S p st) (hb : wrB st = true) (hn : isName s.data.toList = true) (i : Nat) (hl : lookN st.N s.data.toList = some i)
    (hu : used (wrS st) + t.size ≤ 4000000000000000000) (hfull : (wrS st).room < (used (wrS st) : Int) + (t.size : Int)) :
    Calls Tryd.prog 27 #[.pointer (some ⟨p, 0, none⟩), .string s, .string t] w fun e w' => e = .returned (.int .i64 4) ∧ Step S p (wrS st) w w' := by
  have hu0 : Upon (fun _ => False) w (w.alloc (.cells #[.string s] 9 (0, 0))) := (Upon.refl _ w).alloc _
  have h0 : IsDisk (w.alloc (.cells #[.string s] 9 (0, 0))) S p st := h.upon hu0 fun _ _ h => h
  have HW := Lib.hid (wr_is S p st _ h0 hb)
  have HU := Lib.hid hu0
  have HLT := Lib.hid h.lt
  have HN := Lib.hid (name_is s hs hn)
  have HNM := Lib.hid hn
  have HL := Lib.hid (show lookN (wrS st).N s.data.toList = some i by rw [wrS_N]; exact hl)
  clear h h0 hb hu0 hn hl
  obtain ⟨st1, hst1⟩ : ∃ s, s = wrS st := ⟨_, rfl⟩
  rw [← hst1] at HW HL hu hfull ⊢
  clear hst1
  have hdec := decide_eq_true hfull
  clear hfull
  go_enter Tryd.func27, Tryd.ntmps27
  go_wp2_with fail
  refine HW.out.mono ?_
  rintro e w1 ⟨rfl, hs1⟩
  have HS := Lib.hid (Step.first HU.out hs1)
  have hbx := (hs1.upon.block w.heap.size (by simp) (fun hS => by have := HLT.out _ hS; omega)).trans (cell_new w _)
  have cb := cell_of_one hbx
  have lb := lt_of_block hbx
  have nb := Nat.ne_of_lt lb
  obtain ⟨S', g, hd, hbn⟩ := hs1.get
  obtain ⟨k0, -, -, k3, -, -, -⟩ := c6 hd.cell
  have pl := hd.lt p hd.s_p
  have np := Nat.ne_of_lt pl
  have hlk1 := run_look_some (w := w1.drew) (hd.now.kept rfl) hs HL.out
  have hlk2 := run_look_some (w := (w1.alloc (.cells #[.pointer none] 96 (0, 0))).drew) (hd.now.kept (Below.heap_alloc _ _ _ hd.now.lt)) hs HL.out
  have HR := Lib.hid (room_of hd (.pointer (some ⟨blk g.fs i, 0, none⟩)) t.size hu)
  have HBX := Lib.hid hbx
  have HD1 := Lib.hid hd
  have HBN := Lib.hid (show Been S S' w w1 from ⟨hbn.sub, fun b h => (hbn.new b h).elim .inl fun h => .inr (Nat.le_trans HU.out.size h), (HU.out.mono fun _ _ h => h.elim).trans' hbn.upon fun _ _ h => h⟩)
  clear hs1 hd hbn hbx
  go_wp2_with fail
  refine (HN.out _).mono ?_
  rintro e w2 ⟨rfl, rfl⟩
  go_wp2_with fail
  go_region
  all_goals
    have hup2 := (Upon.drew ((Upon.refl (fun _ => False) w1).alloc (.cells #[.pointer (some ⟨blk g.fs i, 0, none⟩)] 96 (0, 0))))
    have HS2 := Lib.hid (HS.out.then hup2)
    have HUP2 := Lib.hid hup2
    clear HS hlk1 hlk2 cb lb nb k0 k3 np hup2
    generalize (w1.alloc (.cells #[.pointer (some ⟨blk g.fs i, 0, none⟩)] 96 (0, 0))).drew = w2 at *
    have r0 := HR.out.cell0
    have r3 := HR.out.cell3
    have r7 := HR.out.cell7
    have rl := HR.out.len
    have rw' := HR.out.wrap
    go_wp2_with fail
    refine wp_region_quiet_below (by kernel_rfl) (by kernel_rfl) ?_
    repeat (go_big_quiet_step (exact Calls.regrown_of (HR.out.used _ _)))
    refine wpQuiet_nil ?_
    intro _ hw'
    obtain ⟨⟨dq, osq⟩, hw''⟩ := hw'
    subst hw''
    have HX := Lib.hid (HS2.out.then (Upon.of_below (below_regrown w2 dq osq) _))
    clear r0 r3 r7 rl rw'
    go_wp2
    go_ret
    exact ⟨rfl, HX.out⟩
set_option maxHeartbeats 3200000 in
set_option maxRecDepth 100000 in
theorem app_full_none (S : Nat → Prop) (p : Nat) (st : St) (s t : ByteArray) (hs : s.size ≤ maxLen) (w : World) (h : IsDisk w S p st) (hb : wrB st = true) (hn : isName s.data.toList = true) (hl : lookN st.N s.data.toList = none)
    (hu : used (wrS st) + t.size ≤ 4000000000000000000) (hfull : (wrS st).room < (used (wrS st) : Int) + (t.size : Int)) :
    Calls Tryd.prog 27 #[.pointer (some ⟨p, 0, none⟩), .string s, .string t] w fun e w' => e = .returned (.int .i64 4) ∧ Step S p (wrS st) w w' := by
  have hu0 : Upon (fun _ => False) w (w.alloc (.cells #[.string s] 9 (0, 0))) := (Upon.refl _ w).alloc _
  have h0 : IsDisk (w.alloc (.cells #[.string s] 9 (0, 0))) S p st := h.upon hu0 fun _ _ h => h
  have HW := Lib.hid (wr_is S p st _ h0 hb)
  have HU := Lib.hid hu0
  have HLT := Lib.hid h.lt
  have HN := Lib.hid (name_is s hs hn)
  have HNM := Lib.hid hn
  have HL := Lib.hid (show lookN (wrS st).N s.data.toList = none by rw [wrS_N]; exact hl)
  clear h h0 hb hu0 hn hl
  obtain ⟨st1, hst1⟩ : ∃ s, s = wrS st := ⟨_, rfl⟩
  rw [← hst1] at HW HL hu hfull ⊢
  clear hst1
  have hdec := decide_eq_true hfull
  clear hfull
  go_enter Tryd.func27, Tryd.ntmps27
  go_wp2_with fail
  refine HW.out.mono ?_
  rintro e w1 ⟨rfl, hs1⟩
  have HS := Lib.hid (Step.first HU.out hs1)
  have hbx := (hs1.upon.block w.heap.size (by simp) (fun hS => by have := HLT.out _ hS; omega)).trans (cell_new w _)
  have cb := cell_of_one hbx
  have lb := lt_of_block hbx
  have nb := Nat.ne_of_lt lb
  obtain ⟨S', g, hd, hbn⟩ := hs1.get
  obtain ⟨k0, -, -, k3, -, -, -⟩ := c6 hd.cell
  have pl := hd.lt p hd.s_p
  have np := Nat.ne_of_lt pl
  have hlk1 := run_look_none (w := w1.drew) (hd.now.kept rfl) hs HL.out
  have hlk2 := run_look_none (w := (w1.alloc (.cells #[.pointer none] 96 (0, 0))).drew) (hd.now.kept (Below.heap_alloc _ _ _ hd.now.lt)) hs HL.out
  have HR := Lib.hid (room_of hd (.pointer none) t.size hu)
  have HBX := Lib.hid hbx
  have HD1 := Lib.hid hd
  have HBN := Lib.hid (show Been S S' w w1 from ⟨hbn.sub, fun b h => (hbn.new b h).elim .inl fun h => .inr (Nat.le_trans HU.out.size h), (HU.out.mono fun _ _ h => h.elim).trans' hbn.upon fun _ _ h => h⟩)
  clear hs1 hd hbn hbx
  go_wp2_with fail
  refine (HN.out _).mono ?_
  rintro e w2 ⟨rfl, rfl⟩
  go_wp2_with fail
  go_region
  all_goals
    have hup2 := (Upon.drew ((Upon.refl (fun _ => False) w1).alloc (.cells #[.pointer none] 96 (0, 0))))
    have HS2 := Lib.hid (HS.out.then hup2)
    have HUP2 := Lib.hid hup2
    clear HS hlk1 hlk2 cb lb nb k0 k3 np hup2
    generalize (w1.alloc (.cells #[.pointer none] 96 (0, 0))).drew = w2 at *
    have r0 := HR.out.cell0
    have r3 := HR.out.cell3
    have r7 := HR.out.cell7
    have rl := HR.out.len
    have rw' := HR.out.wrap
    go_wp2_with fail
    refine wp_region_quiet_below (by kernel_rfl) (by kernel_rfl) ?_
    repeat (go_big_quiet_step (exact Calls.regrown_of (HR.out.used _ _)))
    refine wpQuiet_nil ?_
    intro _ hw'
    obtain ⟨⟨dq, osq⟩, hw''⟩ := hw'
    subst hw''
    have HX := Lib.hid (HS2.out.then (Upon.of_below (below_regrown w2 dq osq) _))
    clear r0 r3 r7 rl rw'
    go_wp2
    go_ret
    exact ⟨rfl, HX.out⟩
set_option maxHeartbeats 3200000 in
set_option maxRecDepth 100000 in
theorem app_max (S : Nat → Prop) (p : Nat) (st : St) (s t : ByteArray) (hs : s.size ≤ maxLen) (w : World) (h : IsDisk w S p st) (hb : wrB st = true) (hn : isName s.data.toList = true) (hl : lookN st.N s.data.toList = none)
    (hu : used (wrS st) + t.size ≤ 4000000000000000000) (hroom : ¬ (wrS st).room < (used (wrS st) : Int) + (t.size : Int)) (h64 : (wrS st).N.length = 64) :
    Calls Tryd.prog 27 #[.pointer (some ⟨p, 0, none⟩), .string s, .string t] w fun e w' => e = .returned (.int .i64 4) ∧ Step S p (wrS st) w w' := by
  have hu0 : Upon (fun _ => False) w (w.alloc (.cells #[.string s] 9 (0, 0))) := (Upon.refl _ w).alloc _
  have h0 : IsDisk (w.alloc (.cells #[.string s] 9 (0, 0))) S p st := h.upon hu0 fun _ _ h => h
  have HW := Lib.hid (wr_is S p st _ h0 hb)
  have HU := Lib.hid hu0
  have HLT := Lib.hid h.lt
  have HN := Lib.hid (name_is s hs hn)
  have HNM := Lib.hid hn
  have HL := Lib.hid (show lookN (wrS st).N s.data.toList = none by rw [wrS_N]; exact hl)
  clear h h0 hb hu0 hn hl
  obtain ⟨st1, hst1⟩ : ∃ s, s = wrS st := ⟨_, rfl⟩
  rw [← hst1] at HW HL hu hroom h64 ⊢
  clear hst1
  have hdec := decide_eq_false hroom
  have h64' : ((st1.N.length : Int) == 64) = true := by rw [h64]; rfl
  clear hroom h64
  go_enter Tryd.func27, Tryd.ntmps27
  go_wp2_with fail
  refine HW.out.mono ?_
  rintro e w1 ⟨rfl, hs1⟩
  have HS := Lib.hid (Step.first HU.out hs1)
  have hbx := (hs1.upon.block w.heap.size (by simp) (fun hS => by have := HLT.out _ hS; omega)).trans (cell_new w _)
  have cb := cell_of_one hbx
  have lb := lt_of_block hbx
  have nb := Nat.ne_of_lt lb
  obtain ⟨S', g, hd, hbn⟩ := hs1.get
  obtain ⟨k0, -, -, k3, -, -, -⟩ := c6 hd.cell
  have pl := hd.lt p hd.s_p
  have np := Nat.ne_of_lt pl
  have hlk1 := run_look_none (w := w1.drew) (hd.now.kept rfl) hs HL.out
  have hlk2 := run_look_none (w := (w1.alloc (.cells #[.pointer none] 96 (0, 0))).drew) (hd.now.kept (Below.heap_alloc _ _ _ hd.now.lt)) hs HL.out
  have HR := Lib.hid (room_of hd (.pointer none) t.size hu)
  have HBX := Lib.hid hbx
  have HD1 := Lib.hid hd
  have HBN := Lib.hid (show Been S S' w w1 from ⟨hbn.sub, fun b h => (hbn.new b h).elim .inl fun h => .inr (Nat.le_trans HU.out.size h), (HU.out.mono fun _ _ h => h.elim).trans' hbn.upon fun _ _ h => h⟩)
  clear hs1 hd hbn hbx
  go_wp2_with fail
  refine (HN.out _).mono ?_
  rintro e w2 ⟨rfl, rfl⟩
  go_wp2_with fail
  go_region
  all_goals
    have hup2 := (Upon.drew ((Upon.refl (fun _ => False) w1).alloc (.cells #[.pointer none] 96 (0, 0))))
    have HS2 := Lib.hid (HS.out.then hup2)
    have HUP2 := Lib.hid hup2
    clear HS hlk1 hlk2 cb lb nb k0 k3 np hup2
    generalize (w1.alloc (.cells #[.pointer none] 96 (0, 0))).drew = w2 at *
    have r0 := HR.out.cell0
    have r3 := HR.out.cell3
    have r7 := HR.out.cell7
    have rl := HR.out.len
    have rw' := HR.out.wrap
    go_wp2_with fail
    refine wp_region_quiet_below (by kernel_rfl) (by kernel_rfl) ?_
    repeat (go_big_quiet_step (exact Calls.regrown_of (HR.out.used _ _)))
    refine wpQuiet_nil ?_
    intro _ hw'
    obtain ⟨⟨dq, osq⟩, hw''⟩ := hw'
    subst hw''
    have HX := Lib.hid (HS2.out.then (Upon.of_below (below_regrown w2 dq osq) _))
    clear r0 r3 r7 rl rw'
    go_wp2
    go_ret
    exact ⟨rfl, HX.out⟩
set_option maxHeartbeats 3200000 in
set_option maxRecDepth 100000 in
theorem app_ok_some (S : Nat → Prop) (p : Nat) (st : St) (s t : ByteArray) (hs : s.size ≤ maxLen) (w : World) (h : IsDisk w S p st) (hb : wrB st = true) (hn : isName s.data.toList = true) (i : Nat) (hl : lookN st.N s.data.toList = some i)
    (hu : used (wrS st) + t.size ≤ 4000000000000000000) (hroom : ¬ (wrS st).room < (used (wrS st) : Int) + (t.size : Int)) (hlen : ∀ f ∈ (wrS st).F, f.s.length + t.size ≤ 140737488355328) :
    Calls Tryd.prog 27 #[.pointer (some ⟨p, 0, none⟩), .string s, .string t] w fun e w' => e = .returned (.int .i64 0) ∧ Step S p { wrS st with F := (wrS st).F.modify i fun f => { f with s := f.s ++ t.data.toList } } w w' := by
  have hu0 : Upon (fun _ => False) w (w.alloc (.cells #[.string s] 9 (0, 0))) := (Upon.refl _ w).alloc _
  have h0 : IsDisk (w.alloc (.cells #[.string s] 9 (0, 0))) S p st := h.upon hu0 fun _ _ h => h
  have HW := Lib.hid (wr_is S p st _ h0 hb)
  have HU := Lib.hid hu0
  have HLT := Lib.hid h.lt
  have HN := Lib.hid (name_is s hs hn)
  have HNM := Lib.hid hn
  have HL := Lib.hid (show lookN (wrS st).N s.data.toList = some i by rw [wrS_N]; exact hl)
  clear h h0 hb hu0 hn hl
  obtain ⟨st1, hst1⟩ : ∃ s, s = wrS st := ⟨_, rfl⟩
  rw [← hst1] at HW HL hu hroom hlen ⊢
  clear hst1
  have hdec := decide_eq_false hroom
  have HLEN := Lib.hid hlen
  clear hroom hlen
  go_enter Tryd.func27, Tryd.ntmps27
  go_wp2_with fail
  refine HW.out.mono ?_
  rintro e w1 ⟨rfl, hs1⟩
  have HS := Lib.hid (Step.first HU.out hs1)
  have hbx := (hs1.upon.block w.heap.size (by simp) (fun hS => by have := HLT.out _ hS; omega)).trans (cell_new w _)
  have cb := cell_of_one hbx
  have lb := lt_of_block hbx
  have nb := Nat.ne_of_lt lb
  obtain ⟨S', g, hd, hbn⟩ := hs1.get
  obtain ⟨k0, -, -, k3, -, -, -⟩ := c6 hd.cell
  have pl := hd.lt p hd.s_p
  have np := Nat.ne_of_lt pl
  have hlk1 := run_look_some (w := w1.drew) (hd.now.kept rfl) hs HL.out
  have hlk2 := run_look_some (w := (w1.alloc (.cells #[.pointer none] 96 (0, 0))).drew) (hd.now.kept (Below.heap_alloc _ _ _ hd.now.lt)) hs HL.out
  have HR := Lib.hid (room_of hd (.pointer (some ⟨blk g.fs i, 0, none⟩)) t.size hu)
  have HBX := Lib.hid hbx
  have HD1 := Lib.hid hd
  have HBN := Lib.hid (show Been S S' w w1 from ⟨hbn.sub, fun b h => (hbn.new b h).elim .inl fun h => .inr (Nat.le_trans HU.out.size h), (HU.out.mono fun _ _ h => h.elim).trans' hbn.upon fun _ _ h => h⟩)
  clear hs1 hd hbn hbx
  go_wp2_with fail
  refine (HN.out _).mono ?_
  rintro e w2 ⟨rfl, rfl⟩
  go_wp2_with fail
  go_region
  all_goals
    have hup2 := (Upon.drew ((Upon.refl (fun _ => False) w1).alloc (.cells #[.pointer (some ⟨blk g.fs i, 0, none⟩)] 96 (0, 0))))
    have HS2 := Lib.hid (HS.out.then hup2)
    have HUP2 := Lib.hid hup2
    clear HS hlk1 hlk2 cb lb nb k0 k3 np hup2
    generalize (w1.alloc (.cells #[.pointer (some ⟨blk g.fs i, 0, none⟩)] 96 (0, 0))).drew = w2 at *
    have r0 := HR.out.cell0
    have r3 := HR.out.cell3
    have r7 := HR.out.cell7
    have rl := HR.out.len
    have rw' := HR.out.wrap
    go_wp2_with fail
    refine wp_region_quiet_below (by kernel_rfl) (by kernel_rfl) ?_
    repeat (go_big_quiet_step (exact Calls.regrown_of (HR.out.used _ _)))
    refine wpQuiet_nil ?_
    intro _ hw'
    obtain ⟨⟨dq, osq⟩, hw''⟩ := hw'
    subst hw''
    have hbel := below_regrown w2 dq osq
    have hbx3 : (grow (redrawn w2 dq) osq).heap[w1.heap.size]? = some (.cells #[.pointer (some ⟨blk g.fs i, 0, none⟩)] 96 (0, 0)) := (hbel.block _ (lt_of_block HR.out.box)).trans HR.out.box
    have hd3 : DiskG (grow (redrawn w2 dq) osq) S' p st1 g := HR.out.disk.kept (fun b hb => hbel.block b (HR.out.disk.lt b hb)) hbel.size
    have hbn3 : Been S S' w (grow (redrawn w2 dq) osq) := ⟨HBN.out.sub, HBN.out.new, (HBN.out.upon.trans' HUP2.out fun _ _ h => h.elim).trans' (Upon.of_below hbel (fun _ => False)) fun _ _ h => h.elim⟩
    clear r0 r3 r7 rl rw' hbel HS2 HR
    generalize grow (redrawn w2 dq) osq = w3 at *
    have c7 := cell_of_one hbx3
    obtain ⟨f, hf, hfile, -⟩ := hd3.file HL.out
    have HWr := Lib.hid (write_any _ _ _ _ t w3 hfile (HLEN.out f (List.mem_of_getElem? hf)))
    have HFin := Lib.hid (fun w4 (hw : Wrote (blk g.fs i) (g.rows.getD i none) (f.s ++ t.data.toList) f.lasts w3 w4) => hbn3.step (hd3.wrote hf hw (q := fun f => { f with s := f.s ++ t.data.toList }) rfl (hd3.fine.modF i _ fun f hf => by simp; omega)))
    clear hbx3 hd3 hbn3 hf hfile
    go_wp2_with fail
    refine HWr.out.mono ?_
    rintro e w4 ⟨rfl, hw⟩
    have HX := Lib.hid (HFin.out w4 hw)
    clear hw
    go_wp2
    go_ret
    exact ⟨rfl, HX.out⟩
set_option maxHeartbeats 3200000 in
set_option maxRecDepth 100000 in
theorem app_new (S : Nat → Prop) (p : Nat) (st : St) (s t : ByteArray) (hs : s.size ≤ maxLen) (w : World) (h : IsDisk w S p st) (hb : wrB st = true) (hn : isName s.data.toList = true) (hl : lookN st.N s.data.toList = none)
    (hu : used (wrS st) + t.size ≤ 4000000000000000000) (hroom : ¬ (wrS st).room < (used (wrS st) : Int) + (t.size : Int)) (h64 : (wrS st).N.length ≠ 64) (hC : (wrS st).C.length ≤ 1000000000) (hlt2 : t.size ≤ 140737488355328) :
    Calls Tryd.prog 27 #[.pointer (some ⟨p, 0, none⟩), .string s, .string t] w fun e w' => e = .returned (.int .i64 0) ∧ Step S p (addF (wrS st) s.data.toList t.data.toList) w w' := by
  have hu0 : Upon (fun _ => False) w (w.alloc (.cells #[.string s] 9 (0, 0))) := (Upon.refl _ w).alloc _
  have h0 : IsDisk (w.alloc (.cells #[.string s] 9 (0, 0))) S p st := h.upon hu0 fun _ _ h => h
  have HW := Lib.hid (wr_is S p st _ h0 hb)
  have HU := Lib.hid hu0
  have HLT := Lib.hid h.lt
  have HN := Lib.hid (name_is s hs hn)
  have HNM := Lib.hid hn
  have HL := Lib.hid (show lookN (wrS st).N s.data.toList = none by rw [wrS_N]; exact hl)
  clear h h0 hb hu0 hn hl
  obtain ⟨st1, hst1⟩ : ∃ s, s = wrS st := ⟨_, rfl⟩
  rw [← hst1] at HW HL hu hroom h64 hC ⊢
  clear hst1
  have hdec := decide_eq_false hroom
  have h64' : ((st1.N.length : Int) == 64) = false := by simp; omega
  have HLL := Lib.hid h64
  clear hroom h64
  go_enter Tryd.func27, Tryd.ntmps27
  go_wp2_with fail
  refine HW.out.mono ?_
  rintro e w1 ⟨rfl, hs1⟩
  have HS := Lib.hid (Step.first HU.out hs1)
  have hbx := (hs1.upon.block w.heap.size (by simp) (fun hS => by have := HLT.out _ hS; omega)).trans (cell_new w _)
  have cb := cell_of_one hbx
  have lb := lt_of_block hbx
  have nb := Nat.ne_of_lt lb
  obtain ⟨S', g, hd, hbn⟩ := hs1.get
  obtain ⟨k0, -, -, k3, -, -, -⟩ := c6 hd.cell
  have pl := hd.lt p hd.s_p
  have np := Nat.ne_of_lt pl
  have hlk1 := run_look_none (w := w1.drew) (hd.now.kept rfl) hs HL.out
  have hlk2 := run_look_none (w := (w1.alloc (.cells #[.pointer none] 96 (0, 0))).drew) (hd.now.kept (Below.heap_alloc _ _ _ hd.now.lt)) hs HL.out
  have HR := Lib.hid (room_of hd (.pointer none) t.size hu)
  have HBX := Lib.hid hbx
  have HD1 := Lib.hid hd
  have HBN := Lib.hid (show Been S S' w w1 from ⟨hbn.sub, fun b h => (hbn.new b h).elim .inl fun h => .inr (Nat.le_trans HU.out.size h), (HU.out.mono fun _ _ h => h.elim).trans' hbn.upon fun _ _ h => h⟩)
  clear hs1 hd hbn hbx
  go_wp2_with fail
  refine (HN.out _).mono ?_
  rintro e w2 ⟨rfl, rfl⟩
  go_wp2_with fail
  go_region
  all_goals
    have hup2 := (Upon.drew ((Upon.refl (fun _ => False) w1).alloc (.cells #[.pointer none] 96 (0, 0))))
    have HS2 := Lib.hid (HS.out.then hup2)
    have HUP2 := Lib.hid hup2
    clear HS hlk1 hlk2 cb lb nb k0 k3 np hup2
    generalize (w1.alloc (.cells #[.pointer none] 96 (0, 0))).drew = w2 at *
    have r0 := HR.out.cell0
    have r3 := HR.out.cell3
    have r7 := HR.out.cell7
    have rl := HR.out.len
    have rw' := HR.out.wrap
    go_wp2_with fail
    refine wp_region_quiet_below (by kernel_rfl) (by kernel_rfl) ?_
    repeat (go_big_quiet_step (exact Calls.regrown_of (HR.out.used _ _)))
    refine wpQuiet_nil ?_
    intro _ hw'
    obtain ⟨⟨dq, osq⟩, hw''⟩ := hw'
    subst hw''
    have hbel := below_regrown w2 dq osq
    have hbx3 : (grow (redrawn w2 dq) osq).heap[w1.heap.size]? = some (.cells #[.pointer none] 96 (0, 0)) := (hbel.block _ (lt_of_block HR.out.box)).trans HR.out.box
    have hup3 : Upon (fun _ => False) w1 (grow (redrawn w2 dq) osq) := HUP2.out.trans (Upon.of_below hbel _)
    clear r0 r3 r7 rl rw' hbel HS2 HR
    generalize grow (redrawn w2 dq) osq = w3 at *
    have c7 := cell_of_one hbx3
    have f7 := free_of_one hbx3
    have l7 := lt_of_block hbx3
    have n7 := Nat.ne_of_lt l7
    have HNF := Lib.hid (new_file t.data.toList HD1.out HBN.out HBX.out hup3 hbx3 HL.out HNM.out HLL.out hC)
    clear hbx3 hup3
    go_wp2_with fail
    refine HNF.out.mono ?_
    rintro e w5 ⟨rfl, hnr⟩
    obtain ⟨hb7, r, hfile, hfin⟩ := hnr
    have c75 := cell_of_one hb7
    have HWr := Lib.hid (write_any _ _ _ _ t w5 hfile (by simpa using hlt2))
    have HFin := Lib.hid hfin
    clear hb7 hfile hfin
    go_wp2_with fail
    refine HWr.out.mono ?_
    rintro e w6 ⟨rfl, hw⟩
    rw [List.nil_append] at hw
    have HX := Lib.hid (HFin.out w6 hw)
    clear hw
    go_wp2
    go_ret
    exact ⟨rfl, HX.out⟩
theorem addF_some {st : St} {k t : Str} {i : Nat} (hl : lookN st.N k = some i) : addF st k t = { st with F := st.F.modify i fun f => { f with s := f.s ++ t } } := by unfold addF; rw [hl]
/-- (*Disk).Append, whatever is asked of it, as long as there is not more on the disk than the model's memory bears. -/
theorem app_any (S : Nat → Prop) (p : Nat) (st : St) (s t : ByteArray) (hs : s.size ≤ maxLen) (hu : used st + t.size ≤ 4000000000000000000) (hlen : ∀ f ∈ st.F, f.s.length + t.size ≤ 140737488355328) (ht : t.size ≤ 140737488355328) (hC : st.C.length ≤ 1000000000)
    (w : World) (h : IsDisk w S p st) :
    Calls Tryd.prog 27 #[.pointer (some ⟨p, 0, none⟩), .string s, .string t] w fun e w' => e = .returned (.int .i64 (appE st s.data.toList t.data.toList)) ∧ Step S p (appS st s.data.toList t.data.toList) w w' := by
  have hu' : used (wrS st) + t.size ≤ 4000000000000000000 := by have e : used (wrS st) = used st := by simp [used, wrS_F, wrS_N]
                                                                rw [e]; exact hu
  have htl : t.data.toList.length = t.size := by simp
  cases hb : wrB st with
  | false =>
    have e1 : appE st s.data.toList t.data.toList = 11 := by simp [appE, hb]
    have e2 : appS st s.data.toList t.data.toList = wrS st := by simp [appS, hb]
    rw [e1, e2]; exact app_dead S p st s t w h hb
  | true =>
    cases hn : isName s.data.toList with
    | false =>
      have e1 : appE st s.data.toList t.data.toList = 3 := by simp [appE, hb, hn]
      have e2 : appS st s.data.toList t.data.toList = wrS st := by simp [appS, hn]
      rw [e1, e2]; exact app_noname S p st s t hs w h hb hn
    | true =>
      by_cases hfull : (wrS st).room < (used (wrS st) : Int) + (t.size : Int)
      · have hf : full (wrS st) s.data.toList t.data.toList = true := by
          unfold full; rw [htl]; simp only [Bool.or_eq_true]; exact .inl (decide_eq_true (by omega))
        have e1 : appE st s.data.toList t.data.toList = 4 := by simp [appE, hb, hn, hf]
        have e2 : appS st s.data.toList t.data.toList = wrS st := by simp [appS, hf]
        rw [e1, e2]
        cases hl : lookN st.N s.data.toList with
        | none => exact app_full_none S p st s t hs w h hb hn hl hu' hfull
        | some i => exact app_full_some S p st s t hs w h hb hn i hl hu' hfull
      · have hd : decide ((wrS st).room < ((used (wrS st) + t.data.toList.length : Nat) : Int)) = false := by rw [htl]; exact decide_eq_false (by omega)
        cases hl : lookN st.N s.data.toList with
        | some i =>
          have hl' : lookN (wrS st).N s.data.toList = some i := by rw [wrS_N]; exact hl
          have hf : full (wrS st) s.data.toList t.data.toList = false := by unfold full; rw [hd, hl']; rfl
          have e1 : appE st s.data.toList t.data.toList = 0 := by simp [appE, hb, hn, hf]
          have e2 : appS st s.data.toList t.data.toList = addF (wrS st) s.data.toList t.data.toList := by simp [appS, hb, hn, hf]
          rw [e1, e2, addF_some hl']
          exact app_ok_some S p st s t hs w h hb hn i hl hu' hfull (by rw [wrS_F]; exact hlen)
        | none =>
          have hl' : lookN (wrS st).N s.data.toList = none := by rw [wrS_N]; exact hl
          by_cases h64 : (wrS st).N.length = 64
          · have hf : full (wrS st) s.data.toList t.data.toList = true := by unfold full; rw [hl']; simp [h64]
            have e1 : appE st s.data.toList t.data.toList = 4 := by simp [appE, hb, hn, hf]
            have e2 : appS st s.data.toList t.data.toList = wrS st := by simp [appS, hf]
            rw [e1, e2]
            exact app_max S p st s t hs w h hb hn hl hu' hfull h64
          · have hf : full (wrS st) s.data.toList t.data.toList = false := by unfold full; rw [hd]; simp [h64]
            have e1 : appE st s.data.toList t.data.toList = 0 := by simp [appE, hb, hn, hf]
            have e2 : appS st s.data.toList t.data.toList = addF (wrS st) s.data.toList t.data.toList := by simp [appS, hb, hn, hf]
            rw [e1, e2]
            exact app_new S p st s t hs w h hb hn hl hu' hfull h64 (by rw [wrS_C]; exact hC) ht
end Dsk
end Go.Proofs.YtjpgglajcelllaaDoor
end
/- The library's contracts on slices.Sorted(maps.Keys(m)) and maps.Clone(m), laid at this program (layer 4's names): the layings in plain words, as the shelf's own tool prints them. -/
section
namespace Go.Proofs.YtjpgglajcelllaaDoor
open Go.RowKit Go.Maps Go.Sort Go.Shelf Go.Proofs
namespace Dsk
def layKeys_ren : Go.Shelf.Ren := ⟨fun | 7 => 59 | 10 => 89 | n => n, fun | 23 => 85 | 26 => 9 | 3 => 96 | 28 => 107 | 0 => 0 | 27 => 106 | 33 => 83 | 4 => 4 | n => n, fun | n => n⟩
theorem layKeys : Go.Proofs.SlLaysZ.n7 Tryd.prog layKeys_ren := {
  mixed := by kernel_rfl
  f7 := ⟨Tryd.f59.name, by decide, Tryd.func59.trans (congrArg some (by kernel_rfl))⟩
  f10 := ⟨Tryd.f89.name, by decide, Tryd.func89.trans (congrArg some (by kernel_rfl))⟩
  t0 := Tryd.underlying0
  a0 := Tryd.isAgg0
  z0 := Tryd.sizeOf0
  v0 := Tryd.zeroValue0
  t4 := Tryd.underlying4
  a4 := Tryd.isAgg4
  z4 := Tryd.sizeOf4
  v4 := Tryd.zeroValue4
  t23 := Tryd.underlying85
  a23 := Tryd.isAgg85
  z23 := Tryd.sizeOf85
  v23 := Tryd.zeroValue85
  t26 := Tryd.underlying9
  a26 := Tryd.isAgg9
  z26 := Tryd.sizeOf9
  v26 := Tryd.zeroValue9
  t27 := Tryd.underlying106
  a27 := Tryd.isAgg106
  z27 := Tryd.sizeOf106
  v27 := Tryd.zeroValue106
  t28 := Tryd.underlying107
  a28 := Tryd.isAgg107
  z28 := Tryd.sizeOf107
  v28 := Tryd.zeroValue107
  t33 := Tryd.underlying83
  a33 := Tryd.isAgg83
  z33 := Tryd.sizeOf83
  v33 := Tryd.zeroValue83 }
def laySorted_ren : Go.Shelf.Ren := ⟨fun | 6 => 58 | 8 => 87 | 9 => 88 | 11 => 98 | 13 => 100 | 12 => 99 | 23 => 112 | 24 => 113 | 14 => 103 | 15 => 104 | 16 => 105 | 17 => 106 | 18 => 107 | 19 => 108 | 20 => 109 | 21 => 110 | 22 => 111 | 25 => 114 | 26 => 115 | 27 => 116 | 28 => 117 | 29 => 118 | 30 => 119 | 31 => 120 | n => n, fun | 26 => 9 | 28 => 107 | 24 => 22 | 0 => 0 | 3 => 3 | 37 => 132 | 48 => 116 | 50 => 49 | 4 => 4 | 40 => 145 | 39 => 144 | 45 => 150 | 5 => 5 | 9 => 9 | 51 => 154 | 55 => 157 | 57 => 159 | 58 => 160 | 33 => 83 | n => n, fun | n => n⟩
theorem laySorted : Go.Proofs.SlLaysZ.n6 Tryd.prog laySorted_ren := {
  mixed := by kernel_rfl
  f6 := ⟨Tryd.f58.name, by decide, Tryd.func58.trans (congrArg some (by kernel_rfl))⟩
  f8 := ⟨Tryd.f87.name, by decide, Tryd.func87.trans (congrArg some (by kernel_rfl))⟩
  f11 := ⟨Tryd.f98.name, by decide, Tryd.func98.trans (congrArg some (by kernel_rfl))⟩
  t0 := Tryd.underlying0
  a0 := Tryd.isAgg0
  z0 := Tryd.sizeOf0
  v0 := Tryd.zeroValue0
  t24 := Tryd.underlying22
  a24 := Tryd.isAgg22
  z24 := Tryd.sizeOf22
  v24 := Tryd.zeroValue22
  t26 := Tryd.underlying9
  a26 := Tryd.isAgg9
  z26 := Tryd.sizeOf9
  v26 := Tryd.zeroValue9
  t28 := Tryd.underlying107
  a28 := Tryd.isAgg107
  z28 := Tryd.sizeOf107
  v28 := Tryd.zeroValue107
  i26 := by kernel_rfl }
def laySort_ren : Go.Shelf.Ren := ⟨fun | 6 => 88 | 8 => 100 | 9 => 99 | 19 => 112 | 20 => 113 | 21 => 103 | 22 => 104 | 23 => 105 | 24 => 106 | 25 => 107 | 26 => 108 | 27 => 109 | 28 => 110 | 29 => 111 | 36 => 114 | 31 => 115 | 32 => 116 | 37 => 117 | 38 => 118 | 39 => 119 | 41 => 120 | n => n, fun | 27 => 22 | 29 => 9 | 3 => 3 | 32 => 132 | 26 => 22 | 0 => 0 | 44 => 116 | 46 => 49 | 4 => 4 | 36 => 145 | 35 => 144 | 41 => 150 | 5 => 5 | 9 => 9 | 53 => 154 | 57 => 157 | 63 => 159 | 64 => 160 | n => n, fun | n => n⟩
theorem laySort : Go.Proofs.SlLaysM.n6 Tryd.prog laySort_ren := {
  mixed := by kernel_rfl
  f6 := ⟨Tryd.f88.name, by decide, Tryd.func88.trans (congrArg some (by kernel_rfl))⟩
  f8 := Tryd.func100.trans (congrArg some (by kernel_rfl))
  f9 := ⟨Tryd.f99.name, by decide, Tryd.func99.trans (congrArg some (by kernel_rfl))⟩
  f19 := Tryd.func112.trans (congrArg some (by kernel_rfl))
  f20 := Tryd.func113.trans (congrArg some (by kernel_rfl))
  f21 := ⟨Tryd.f103.name, by decide, Tryd.func103.trans (congrArg some (by kernel_rfl))⟩
  f22 := ⟨Tryd.f104.name, by decide, Tryd.func104.trans (congrArg some (by kernel_rfl))⟩
  f23 := ⟨Tryd.f105.name, by decide, Tryd.func105.trans (congrArg some (by kernel_rfl))⟩
  f24 := ⟨Tryd.f106.name, by decide, Tryd.func106.trans (congrArg some (by kernel_rfl))⟩
  f25 := ⟨Tryd.f107.name, by decide, Tryd.func107.trans (congrArg some (by kernel_rfl))⟩
  f26 := ⟨Tryd.f108.name, by decide, Tryd.func108.trans (congrArg some (by kernel_rfl))⟩
  f27 := ⟨Tryd.f109.name, by decide, Tryd.func109.trans (congrArg some (by kernel_rfl))⟩
  f28 := ⟨Tryd.f110.name, by decide, Tryd.func110.trans (congrArg some (by kernel_rfl))⟩
  f29 := ⟨Tryd.f111.name, by decide, Tryd.func111.trans (congrArg some (by kernel_rfl))⟩
  f31 := Tryd.func115.trans (congrArg some (by kernel_rfl))
  f32 := Tryd.func116.trans (congrArg some (by kernel_rfl))
  f36 := ⟨Tryd.f114.name, by decide, Tryd.func114.trans (congrArg some (by kernel_rfl))⟩
  f37 := ⟨Tryd.f117.name, by decide, Tryd.func117.trans (congrArg some (by kernel_rfl))⟩
  f38 := ⟨Tryd.f118.name, by decide, Tryd.func118.trans (congrArg some (by kernel_rfl))⟩
  f39 := ⟨Tryd.f119.name, by decide, Tryd.func119.trans (congrArg some (by kernel_rfl))⟩
  f41 := ⟨Tryd.f120.name, by decide, Tryd.func120.trans (congrArg some (by kernel_rfl))⟩
  t0 := Tryd.underlying0
  a0 := Tryd.isAgg0
  z0 := Tryd.sizeOf0
  v0 := Tryd.zeroValue0
  t3 := Tryd.underlying3
  a3 := Tryd.isAgg3
  z3 := Tryd.sizeOf3
  v3 := Tryd.zeroValue3
  t4 := Tryd.underlying4
  a4 := Tryd.isAgg4
  z4 := Tryd.sizeOf4
  v4 := Tryd.zeroValue4
  t5 := Tryd.underlying5
  a5 := Tryd.isAgg5
  z5 := Tryd.sizeOf5
  v5 := Tryd.zeroValue5
  t9 := Tryd.underlying9
  a9 := Tryd.isAgg9
  z9 := Tryd.sizeOf9
  v9 := Tryd.zeroValue9
  t26 := Tryd.underlying22
  a26 := Tryd.isAgg22
  z26 := Tryd.sizeOf22
  v26 := Tryd.zeroValue22
  t27 := Tryd.underlying22
  a27 := Tryd.isAgg22
  z27 := Tryd.sizeOf22
  v27 := Tryd.zeroValue22
  t29 := Tryd.underlying9
  a29 := Tryd.isAgg9
  z29 := Tryd.sizeOf9
  v29 := Tryd.zeroValue9
  t32 := Tryd.underlying132
  a32 := Tryd.isAgg132
  z32 := Tryd.sizeOf132
  v32 := Tryd.zeroValue132
  t35 := Tryd.underlying144
  a35 := Tryd.isAgg144
  z35 := Tryd.sizeOf144
  v35 := Tryd.zeroValue144
  t36 := Tryd.underlying145
  a36 := Tryd.isAgg145
  z36 := Tryd.sizeOf145
  v36 := Tryd.zeroValue145
  t41 := Tryd.underlying150
  a41 := Tryd.isAgg150
  z41 := Tryd.sizeOf150
  v41 := Tryd.zeroValue150
  t44 := Tryd.underlying116
  a44 := Tryd.isAgg116
  z44 := Tryd.sizeOf116
  v44 := Tryd.zeroValue116
  t46 := Tryd.underlying49
  a46 := Tryd.isAgg49
  z46 := Tryd.sizeOf49
  v46 := Tryd.zeroValue49
  t53 := Tryd.underlying154
  a53 := Tryd.isAgg154
  z53 := Tryd.sizeOf154
  v53 := Tryd.zeroValue154
  t57 := Tryd.underlying157
  a57 := Tryd.isAgg157
  z57 := Tryd.sizeOf157
  v57 := Tryd.zeroValue157
  t63 := Tryd.underlying159
  a63 := Tryd.isAgg159
  z63 := Tryd.sizeOf159
  v63 := Tryd.zeroValue159
  t64 := Tryd.underlying160
  a64 := Tryd.isAgg160
  z64 := Tryd.sizeOf160
  v64 := Tryd.zeroValue160 }
def layClone_ren : Go.Shelf.Ren := ⟨fun | 5 => 54 | 7 => 85 | n => n, fun | 23 => 85 | 25 => 9 | 3 => 96 | 4 => 4 | 20 => 20 | n => n, fun | n => n⟩
theorem layClone : Go.Proofs.SlLaysW.n5 Tryd.prog layClone_ren := {
  mixed := by kernel_rfl
  f5 := ⟨Tryd.f54.name, by decide, Tryd.func54.trans (congrArg some (by kernel_rfl))⟩
  f7 := Tryd.func85.trans (congrArg some (by kernel_rfl))
  t4 := Tryd.underlying4
  a4 := Tryd.isAgg4
  z4 := Tryd.sizeOf4
  v4 := Tryd.zeroValue4
  t20 := Tryd.underlying20
  a20 := Tryd.isAgg20
  z20 := Tryd.sizeOf20
  v20 := Tryd.zeroValue20
  t23 := Tryd.underlying85
  a23 := Tryd.isAgg85
  z23 := Tryd.sizeOf85
  v23 := Tryd.zeroValue85 }
/-- slices.Sort's two contracts at this program, at the fence that asks nothing. -/
theorem sortsAt (m : Nat) : AnyZ.SortsIn Tryd.prog laySorted_ren Fence.wide m :=
  ⟨fun blk off cap ss W hH hblk hsz => callsIn_wide.2 (AnyM.slices_Sort_string laySort blk off cap ss W hH hblk hsz),
   fun p cap W => callsIn_wide.2 (AnyM.slices_Sort_string_none laySort p cap W)⟩
/-- maps.Keys. -/
theorem keys_at (mb : Option Nat) (W : World) : CallsIn Fence.wide 5 Tryd.prog 59 #[.map mb] W fun e w' => e = .returned (.func (.func 89) #[] #[.pointer (some ⟨W.heap.size, 0, none⟩)]) ∧ w' = W.alloc (.cells #[.map mb] 85) :=
  AnyZ.keys_in layKeys Fence.wide 5 trivial rfl mb W
set_option maxHeartbeats 1000000 in
/-- slices.Sorted at what maps.Keys handed back. -/
theorem sorted_at {H : Type} (b nn : Nat) (D0 : DataW H) (R : Value → Option (DataW H × List MemPlace)) (w : World) (hown : w.ownsMap Tryd.prog 9 R b nn D0) (hmax : Maps.size D0 ≤ maxLen) (hbytes : Maps.size D0 * 16 ≤ 140737488355328) :
    CallsIn Fence.wide 5 Tryd.prog 58 #[.func (.func 89) #[] #[.pointer (some ⟨w.heap.size, 0, none⟩)]] (w.alloc (.cells #[.map (some b)] 85)) fun e w' => ∃ (v : Value) (ss : List (List UInt8)), e = .returned v ∧ ss.Perm (strKeys D0) ∧
      w'.ownsRow (w.alloc (.cells #[.map (some b)] 85)).heap.size 9 1 v ss.length ((ss.mergeSort (fun x y => decide (x ≤ y))).map encStr) ∧ (v = .slice none 0 0 ↔ ss = []) ∧ Below (w.alloc (.cells #[.map (some b)] 85)).heap.size (w.alloc (.cells #[.map (some b)] 85)) w' := by
  have hbl := hown.lt
  have hseq : SeqGives Fence.wide 2 Tryd.prog 89 #[.pointer (some ⟨w.heap.size, 0, none⟩)] encStr (fun ss => ss.Perm (strKeys D0)) (Maps.size D0) (w.alloc (.cells #[.map (some b)] 85)) :=
    AnyZ.keys_gives (ρ := layKeys_ren) { layKeys with } Fence.wide _ trivial rfl (by omega) w.heap.size b nn D0 _ (by simp) (by simp) (by
      obtain ⟨es, clock, hb, Ft, hs, hD⟩ := hown
      exact ⟨es, clock, (Below.heap_alloc _ _ b hbl).trans hb, Ft, hs, hD⟩)
  exact AnyZ.sorted_in laySorted Fence.wide 5 trivial trivial trivial trivial rfl (by omega) (sortsAt _) (enters_of Tryd.func88 (by kernel_rfl) rfl) 89 #[.pointer (some ⟨w.heap.size, 0, none⟩)] trivial (enters_of Tryd.func89 (by kernel_rfl) rfl) _ _ hmax hbytes _ hseq
/-- maps.Clone of names. -/
theorem clone_any (b : Nat) (fs : List Nat) (N : Nms) (w : World) (h : MapAt w b fs N) : Calls Tryd.prog 54 #[.map (some b)] w fun e w' => e = .returned (.map (some w.heap.size)) ∧ MapAt w' w.heap.size fs N ∧ Below w.heap.size w w' :=
  (AnyW.maps_Clone_owns layClone 9 ptrElem b N.length (toD fs N) w h).mono fun _ _ ⟨h1, h2, _, h3⟩ => ⟨h1, h2, h3⟩
/-- What (*Disk).Names answers: the list in a row of its own. -/
def NamesAre (l : List Str) (w : World) (e : Ending) (w' : World) : Prop :=
  ∃ v, e = .returned v ∧ w'.ownsRow w.heap.size 9 1 v l.length (l.map encStr) ∧ (v = .slice none 0 0 ↔ l = []) ∧ Below w.heap.size w w'
set_option maxHeartbeats 1000000 in
theorem names_dead (S : Nat → Prop) (p : Nat) (st : St) (w : World) (h : IsDisk w S p st) (hd : st.dead = true) : Calls Tryd.prog 26 #[.pointer (some ⟨p, 0, none⟩)] w (NamesAre [] w) := by
  obtain ⟨g, h⟩ := h
  obtain ⟨-, k1, -, -, -, -, -⟩ := c6 h.cell
  rw [hd] at k1
  simp only [Bool.not_true] at k1
  clear h hd
  go_enter Tryd.func26, Tryd.ntmps26
  go_wp2
  go_ret
  exact ⟨_, rfl, World.ownsRow_nil _ _ _ _, by simp, Below.refl _ _⟩
set_option maxHeartbeats 1000000 in
theorem names_up (S : Nat → Prop) (p : Nat) (st : St) (w : World) (h : IsDisk w S p st) (hd : st.dead = false) : Calls Tryd.prog 26 #[.pointer (some ⟨p, 0, none⟩)] w (NamesAre (st.N.map (·.1)) w) := by
  obtain ⟨g, h⟩ := h
  obtain ⟨-, k1, -, k3, -, -, -⟩ := c6 h.cell
  rw [hd] at k1
  simp only [Bool.not_false] at k1
  have HM := Lib.hid h.now
  have HR := Lib.hid h.fine.nmN.rising
  have hln := h.fine.nmN.len
  have HS := Lib.hid (sorted_at g.bn st.N.length (toD g.fs st.N) ptrElem w h.now (by rw [toD_size]; unfold maxLen; omega) (by rw [toD_size]; omega))
  clear h hd
  refine (callsIn_wide (n := 6)).1 ?_
  have hfK : Fence.wide.fn 59 := trivial
  have hfS : Fence.wide.fn 58 := trivial
  refine callsIn_of_wp Tryd.func26 rfl trivial ?_ rfl
  simp only [Tryd.ntmps26, List.size_toArray, List.length_cons, List.length_nil, Nat.reduceAdd, Nat.reduceSub, Array.replicate_succ, Array.replicate_zero, List.push_toArray, List.append_toArray, List.nil_append, List.cons_append]
  gi_wp2_with (first
    | (gi_at_call 59; refine (keys_at _ _).mono ?_; rintro e w' ⟨rfl, rfl⟩)
    | (gi_at_call 58; refine HS.out.mono ?_; rintro e w' ⟨v, ss, rfl, hS, hrow, hnil, hb⟩))
  have hkeys := sorted_names HR.out (hS.trans (by rw [toD_keys]))
  have hlen : ss.length = (st.N.map (·.1)).length := by rw [hS.length_eq, toD_keys]
  rw [hkeys, hlen] at hrow
  have H : Hid (NamesAre (st.N.map (·.1)) w (.returned v) w') := Lib.hid ⟨v, rfl, ownsRow_base_a hrow (by simp), by
    rw [hnil]
    constructor
    · intro e; rw [e] at hlen; exact List.eq_nil_of_length_eq_zero hlen.symm
    · intro e; rw [e] at hlen; exact List.eq_nil_of_length_eq_zero hlen, ((Below.refl _ w).alloc (Nat.le_refl _) _).trans (hb.mono (by simp))⟩
  clear hrow hnil hb hkeys hlen hS
  go_ret
  exact H.out
theorem names_any (S : Nat → Prop) (p : Nat) (st : St) (w : World) (h : IsDisk w S p st) : Calls Tryd.prog 26 #[.pointer (some ⟨p, 0, none⟩)] w (NamesAre (names st) w) := by
  unfold names
  cases hd : st.dead with
  | true => exact names_dead S p st w h hd
  | false => exact names_up S p st w h hd
end Dsk
end Go.Proofs.YtjpgglajcelllaaDoor
end
/- What a crash takes of the numbers that it is given (layer 4): picker and its closure. -/
section
namespace Go.Proofs.YtjpgglajcelllaaDoor
open Go.RowKit
namespace Dsk
open Go.Maps
/-- The slice v holds the numbers ks, in block db. -/
def KeepAt (w : World) (v : Value) (ks : List Int) (db : Nat) : Prop :=
  ∃ a c, v = .slice a ks.length c ∧ ks.length ≤ c ∧ c ≤ maxLen ∧ (ks ≠ [] → ∃ o, a = some ⟨db, o, none⟩ ∧ ∀ j x, ks[j]? = some x → w.cell? ⟨db, o + j, none⟩ = some (.int .i64 x) ∧ -9223372036854775808 ≤ x ∧ x ≤ 9223372036854775807)
theorem KeepAt.kept {w w' : World} {v : Value} {ks : List Int} {db : Nat} (h : KeepAt w v ks db) (hk : ks ≠ [] → w'.heap[db]? = w.heap[db]?) : KeepAt w' v ks db := by
  obtain ⟨a, c, hv, h1, h2, h3⟩ := h
  refine ⟨a, c, hv, h1, h2, fun hn => ?_⟩
  obtain ⟨o, ha, hc⟩ := h3 hn
  exact ⟨o, ha, fun j x hx => ⟨(World.cell?_of_block (w := w) (a := ⟨db, o + j, none⟩) (hk hn)).trans (hc j x hx).1, (hc j x hx).2⟩⟩
theorem KeepAt.nil (w : World) (db : Nat) : KeepAt w (.slice none 0 0) [] db := ⟨none, 0, rfl, Nat.le_refl _, Nat.zero_le _, fun h => absurd rfl h⟩
theorem KeepAt.ne {w : World} {v : Value} {ks : List Int} {db kb : Nat} {x : Value} {T : TypeId} (h : KeepAt w v ks db) (hb : w.heap[kb]? = some (.cells #[x] T (0, 0))) (hx : ∀ q n, x ≠ .int q n) : ks ≠ [] → db ≠ kb := by
  rintro hn rfl
  obtain ⟨a, c, hv, h1, h2, h3⟩ := h
  obtain ⟨o, ha, hc⟩ := h3 hn
  cases ks with
  | nil => exact hn rfl
  | cons y r =>
    have := (hc 0 y rfl).1
    rw [Lib.cell_of_heap hb] at this
    cases o with
    | zero => simp at this; exact hx _ _ this
    | succ m => simp at this
theorem cell_of_slice {w : World} {kb : Nat} {v v' : Value} (h : w.heap[kb]? = some (.cells #[v] 43 (0, 0))) : (w.setCell ⟨kb, 0, none⟩ v').heap[kb]? = some (.cells #[v'] 43 (0, 0)) := one_setCell h
/-- What the closure leaves. -/
def Picked (ks : List Int) (db kb m : Nat) (w : World) (e : Ending) (w' : World) : Prop :=
  e = .returned (.int .i64 (kept1 ks m : Int)) ∧ (∃ v', w'.heap[kb]? = some (.cells #[v'] 43 (0, 0)) ∧ KeepAt w' v' (ks.drop 1) db) ∧ w.grownBy w' (some kb)
theorem kept1_cons (x : Int) (r : List Int) (m : Nat) (hm : m < 18446744073709551615) : ((kept1 (x :: r) m : Nat) : Int) = (x % 18446744073709551616) % ((m : Int) + 1) := by
  unfold kept1
  have h0 : 0 ≤ x % 18446744073709551616 := Int.emod_nonneg _ (by decide)
  have h1 := hm
  rw [Int.natCast_emod]
  rw [Int.toNat_of_nonneg h0]
  rfl
theorem kept1_le (ks : List Int) (m : Nat) : kept1 ks m ≤ m := by
  cases ks with
  | nil => exact Nat.zero_le _
  | cons x r =>
    have := Nat.mod_lt (x % 18446744073709551616).toNat (Nat.succ_pos m)
    show (x % 18446744073709551616).toNat % (m + 1) ≤ m
    simp only [Nat.succ_eq_add_one] at this
    omega
set_option maxHeartbeats 1600000 in
set_option maxRecDepth 100000 in
theorem pick_any (ks : List Int) (db kb m : Nat) (v : Value) (hm : m ≤ 1000000000000000) (w : World) (hb : w.heap[kb]? = some (.cells #[v] 43 (0, 0))) (hk : KeepAt w v ks db) :
    Calls Tryd.prog 84 #[.int .i64 (m : Int), .pointer (some ⟨kb, 0, none⟩)] w (Picked ks db kb m w) := by
  have cb := cell_of_one hb
  have fb := free_of_one hb
  have hk0 := hk
  have hvs : ∀ q n, v ≠ .int q n := by
    obtain ⟨a, c, hv, _⟩ := hk
    intro q n e; rw [hv] at e; cases e
  have hne := hk.ne hb hvs
  obtain ⟨a, c, rfl, h1, h2, h3⟩ := hk
  unfold maxLen at h2
  cases ks with
  | nil =>
    have H : Hid (Picked [] db kb m w (.returned (.int .i64 0)) w) := Lib.hid ⟨rfl, ⟨_, hb, hk0⟩, rfl, rfl, rfl, Nat.le_refl _, fun _ _ _ => rfl⟩
    clear hb hk0 hne h3 hvs
    go_enter Tryd.func84, Tryd.ntmps84
    go_wp2
    go_ret
    exact H.out
  | cons x r =>
    obtain ⟨o, rfl, hc⟩ := h3 (by simp)
    have hx0 : w.cell? ⟨db, o, none⟩ = some (.int .i64 x) := (hc 0 x rfl).1
    have hdk := hne (by simp)
    have hcx : IntKind.u64.wrap x = x % 18446744073709551616 := by rw [IntKind.wrap_u64]
    have hcm : IntKind.u64.wrap ((m : Int) + 1) = (m : Int) + 1 := by rw [IntKind.wrap_u64]; omega
    have hnn : 0 ≤ x % 18446744073709551616 := Int.emod_nonneg _ (by decide)
    have hlt : x % 18446744073709551616 < 18446744073709551616 := Int.emod_lt_of_pos _ (by decide)
    have hval := kept1_cons x r m (by omega)
    have hle := kept1_le (x :: r) m
    have hlen : (x :: r).length = r.length + 1 := rfl
    rw [hlen] at h1 hb cb hk0
    have HV := Lib.hid hval
    have hdata : ∀ j y, r[j]? = some y → w.cell? ⟨db, o + 1 + j, none⟩ = some (.int .i64 y) ∧ -9223372036854775808 ≤ y ∧ y ≤ 9223372036854775807 := fun j y hy => by
      have := hc (j + 1) y (by simpa using hy)
      rw [show o + 1 + j = o + (j + 1) by omega]; exact this
    have hpost : ∀ a', (r ≠ [] → a' = some ⟨db, o + 1, none⟩) → Picked (x :: r) db kb m w (.returned (.int .i64 (kept1 (x :: r) m : Int))) (w.setCell ⟨kb, 0, none⟩ (.slice a' r.length (c - 1))) := by
      intro a' ha'
      refine ⟨rfl, ⟨_, cell_of_slice hb, a', c - 1, rfl, by show r.length ≤ c - 1; omega, by unfold maxLen; omega, fun hn => ⟨o + 1, ha' hn, fun j y hy => ?_⟩⟩, rfl, rfl, rfl, by simp [World.setCell], fun k _ hk => Below.heap_setCell _ _ _ _ (fun e => hk (by rw [e]))⟩
      rw [World.cell?_setCell_other _ _ _ _ (by intro e; exact hdk (by injection e with e1; exact e1.symm))]
      exact hdata j y hy
    have HP := Lib.hid hpost
    have hwr0 : wrap64 (kept1 (x :: r) m : Int) = (kept1 (x :: r) m : Int) := IntWalk.wrap64_in _ (by omega)
    have HWR := Lib.hid hwr0
    clear hwr0
    clear hval hpost hdata hc hb hk0 hne h3 hvs hlen
    by_cases hc1 : c = 1
    · subst hc1
      go_enter Tryd.func84, Tryd.ntmps84
      go_wp2
      go_ret
      have hr : r = [] := by
        cases r with
        | nil => rfl
        | cons y q => simp at h1
      subst hr
      have h := HP.out (some ⟨db, o, none⟩) (fun h => absurd rfl h)
      rw [← HV.out]
      rw [← HWR.out] at h
      exact h
    · have hc2 : 1 < c := by omega
      go_enter Tryd.func84, Tryd.ntmps84
      go_wp2
      go_ret
      have h := HP.out (some ⟨db, o + 1, none⟩) (fun _ => rfl)
      rw [← HV.out]
      rw [← HWR.out] at h
      exact h
end Dsk
end Go.Proofs.YtjpgglajcelllaaDoor
end
/- (*Disk).Crash (layer 4). -/
section
namespace Go.Proofs.YtjpgglajcelllaaDoor
open Go.RowKit
namespace Dsk
open Go.Maps
set_option maxHeartbeats 800000 in
theorem picker_any (a : Option Addr) (n c : Nat) (w : World) :
    Calls Tryd.prog 52 #[.slice a n c] w fun e w' => e = .returned (.func (.func 84) #[] #[.pointer (some ⟨w.heap.size, 0, none⟩)]) ∧ w.alloc (.cells #[.slice a n c] 43 (0, 0)) = w' := by
  go_enter Tryd.func52, Tryd.ntmps52
  go_wp2
  go_ret
  exact ⟨rfl, rfl⟩
/-- The names behind a crash, and the files when j of them have been cut. -/
def crN (st : St) (keep : List Int) : Nms := (st.C.take (kept1 keep st.C.length)).foldl appC st.L
def crAt (st : St) (keep : List Int) (j : Nat) : St :=
  { room := st.room, dead := false, left := -1, F := cutAll (keep.drop 1) ((crN st keep).take j) st.F, N := crN st keep, L := crN st keep, C := [] }
theorem cutAll_snoc : ∀ (keep : List Int) (N : Nms) (F : List FileS) (p : Str × Nat), cutAll keep (N ++ [p]) F = (cutAll keep N F).modify p.2 fun f => cutF f (f.lasts + kept1 (keep.drop N.length) (f.s.length - f.lasts))
  | keep, [], F, p => by simp [cutAll]
  | keep, q :: r, F, p => by
    rw [List.cons_append]
    unfold cutAll
    rw [cutAll_snoc (keep.drop 1) r _ p]
    congr 1
    rw [List.drop_drop, List.length_cons, Nat.add_comm]
theorem len_cutAll : ∀ (keep : List Int) (N : Nms) (F : List FileS), (cutAll keep N F).length = F.length
  | _, [], _ => rfl
  | keep, p :: r, F => by unfold cutAll; rw [len_cutAll (keep.drop 1) r]; simp
theorem crAt_end (st : St) (keep : List Int) : crAt st keep (crN st keep).length = crash st keep := by
  unfold crAt crash; rw [List.take_length]; rfl
theorem fine_crAt {st : St} (h : Fine st) (keep : List Int) (j : Nat) : Fine (crAt st keep j) := by
  have hk := h.nmK (kept1 keep st.C.length)
  refine ⟨hk.rising, rfl, trivial, fun p hp => by simp only [crAt]; rw [len_cutAll]; exact hk.ins p hp, hk.len, hk.nm, by simp [crAt], ?_, by simp [crAt]⟩
  have : ∀ (N : Nms) (keep : List Int) (F : List FileS), (∀ f ∈ F, f.lasts ≤ f.s.length) → ∀ f ∈ cutAll keep N F, f.lasts ≤ f.s.length := by
    intro N
    induction N with
    | nil => intro _ F hF; exact hF
    | cons p r ih =>
      intro keep F hF
      unfold cutAll
      refine ih _ _ ?_
      intro f hf
      obtain ⟨i, hi, rfl⟩ := List.mem_iff_getElem.1 hf
      rw [List.getElem_modify]
      have hm := hF _ (List.getElem_mem (l := F) (by simpa using hi : i < F.length))
      split
      · have hk := kept1_le keep ((F[i]'(by simpa using hi)).s.length - (F[i]'(by simpa using hi)).lasts)
        simp only [cutF, List.length_take]
        omega
      · exact hm
  exact this _ _ _ h.lasts
/-- Behind settle and the copy of the names. -/
theorem crash_mid {w1 w2 w3 : World} {S : Nat → Prop} {p : Nat} {st : St} {keep : List Int} {g : Ghost} (hf : Fine st) (h : DiskM w2 S p (settle st (kept1 keep st.C.length)) g) (hm : MapAt w3 w2.heap.size g.fs (crN st keep)) (hb : Below w2.heap.size w2 w3)
    (hu : Upon S w1 w2) :
    (w3.cell? ⟨p, 3, none⟩ = some (.map (some g.bn)) ∧ w3.cell? ⟨p, 1, none⟩ = some (.bool (!st.dead)) ∧ w3.cell? ⟨p, 2, none⟩ = some (.int .i64 g.fv) ∧ ∀ o, w3.frozen? ⟨p, o, none⟩ = false) ∧
    ∃ S' g', DiskG (((w3.setCell ⟨p, 3, none⟩ (.map (some w2.heap.size))).setCell ⟨p, 1, none⟩ (.bool true)).setCell ⟨p, 2, none⟩ (.int .i64 (-1))) S' p (crAt st keep 0) g' ∧
      Been S S' w1 (((w3.setCell ⟨p, 3, none⟩ (.map (some w2.heap.size))).setCell ⟨p, 1, none⟩ (.bool true)).setCell ⟨p, 2, none⟩ (.int .i64 (-1))) ∧ ∀ b, S' b → S b ∨ w2.heap.size ≤ b := by
  have hp3 : w3.heap[p]? = some (.cells (cellsOf (settle st (kept1 keep st.C.length)) g) 88 (0, 0)) := (hb.block p (h.lt p h.s_p)).trans h.cell
  obtain ⟨-, k1, k2, k3, -, -, kf⟩ := c6 hp3
  refine ⟨⟨k3, k1, k2, kf⟩, ?_⟩
  have hlt := h.lt p h.s_p
  have hm3 := hm.lt
  have hk : ∀ b, b < w2.heap.size → b ≠ p → (((w3.setCell ⟨p, 3, none⟩ (.map (some w2.heap.size))).setCell ⟨p, 1, none⟩ (.bool true)).setCell ⟨p, 2, none⟩ (.int .i64 (-1))).heap[b]? = w2.heap[b]? := fun b hb' hne => by
    rw [Below.heap_setCell _ _ _ _ hne, Below.heap_setCell _ _ _ _ hne, Below.heap_setCell _ _ _ _ hne]; exact hb.block b hb'
  have hc : ∀ (b : Nat) c T z, S b → w2.heap[b]? = some (Obj.cells c T z) → T ≠ 88 → (((w3.setCell ⟨p, 3, none⟩ (.map (some w2.heap.size))).setCell ⟨p, 1, none⟩ (.bool true)).setCell ⟨p, 2, none⟩ (.int .i64 (-1))).heap[b]? = w2.heap[b]? := fun b c T z hS hb' hT =>
    hk b (h.lt b hS) (by rintro rfl; rw [h.cell] at hb'; simp at hb'; exact hT hb'.2.1.symm)
  have hsz : (((w3.setCell ⟨p, 3, none⟩ (.map (some w2.heap.size))).setCell ⟨p, 1, none⟩ (.bool true)).setCell ⟨p, 2, none⟩ (.int .i64 (-1))).heap.size = w3.heap.size := by simp [World.setCell]
  refine ⟨fun b => S b ∨ b = w2.heap.size, { g with bn := w2.heap.size, fv := -1 }, ?_, ⟨fun b hb => .inl hb, fun b hb => ?_, ?_⟩, fun b hb => hb.elim .inl fun e => .inr (by rw [e]; exact Nat.le_refl _)⟩
  · exact {
      fine := fine_crAt hf keep 0
      cell := by rw [set6 (set6 (set6 hp3))]; rfl
      fuse := rfl
      wf := ⟨by simp only; omega, by simp only; omega⟩
      wr := h.wr
      now := hm.kept (by rw [Below.heap_setCell _ _ _ _ (by simp; omega), Below.heap_setCell _ _ _ _ (by simp; omega), Below.heap_setCell _ _ _ _ (by simp; omega)])
      last := map_kept_cells h.last fun es clock hh => hk _ h.last.lt (by intro e; rw [e, h.cell] at hh; cases hh)
      two := by have := h.last.lt; simp only; omega
      files := (files_keptB h.files fun b c T z hS hb' hT => hc b c T z hS hb' (by rintro rfl; rcases hT with e | e <;> cases e)).mono fun b hb => .inl hb
      chs := (h.chs.keptB fun b c T hS hb' hT => hc b c T _ hS hb' (by rintro rfl; rcases hT with e | e | e <;> cases e)).mono fun b hb => .inl hb
      s_p := .inl h.s_p
      s_n := .inr rfl
      s_l := .inl h.s_l
      lt := fun b hb' => by
        rw [hsz]
        rcases hb' with hb' | hb'
        · exact Nat.lt_of_lt_of_le (h.lt b hb') hb.size
        · rw [hb']; exact hm3 }
  · rcases hb with hb | hb
    · exact .inl hb
    · exact .inr (by rw [hb]; exact hu.size)
  · exact (((hu.trans' (Upon.of_below hb (fun _ => False)) fun _ _ h => h.elim).setCell (p := ⟨p, 3, none⟩) (.inl h.s_p) _).setCell (p := ⟨p, 1, none⟩) (.inl h.s_p) _).setCell (p := ⟨p, 2, none⟩) (.inl h.s_p) _
/-- How far the crash has come: j files are cut. -/
structure CrAt (w w6 : World) (S : Nat → Prop) (p kb gb db : Nat) (st : St) (keep : List Int) (j : Nat) (wr : World) : Prop where
  disk : ∃ S' g, DiskG wr S' p (crAt st keep j) g ∧ Been S S' w wr ∧ ¬ S' kb ∧ (crN st keep ≠ [] → ¬ S' gb) ∧ (keep ≠ [] → ¬ S' db)
  box : ∃ v', wr.heap[kb]? = some (.cells #[v'] 43 (0, 0)) ∧ KeepAt wr v' (keep.drop (1 + j)) db
  row : crN st keep ≠ [] → wr.heap[gb]? = w6.heap[gb]?
  size : w6.heap.size ≤ wr.heap.size
/-- .. one more. -/
theorem crAt_step {w w6 wr w1 w2 : World} {S S' : Nat → Prop} {p kb gb db : Nat} {st : St} {keep : List Int} {j : Nat} {g : Ghost} {x : Str} {i : Nat} {f : FileS} (hd : DiskG wr S' p (crAt st keep j) g) (hbn : Been S S' w wr) (hkb : ¬ S' kb) (hgb : crN st keep ≠ [] → ¬ S' gb) (hdb : keep ≠ [] → ¬ S' db)
    (hkl : kb < w6.heap.size) (hgl : crN st keep ≠ [] → gb < w6.heap.size) (hdl : keep ≠ [] → db < w6.heap.size) (hgk : gb ≠ kb) (hwk : w.heap.size ≤ kb)
    (hrow : crN st keep ≠ [] → wr.heap[gb]? = w6.heap[gb]?) (hsz : w6.heap.size ≤ wr.heap.size)
    (hx : (crN st keep)[j]? = some (x, i)) (hf : (crAt st keep j).F[i]? = some f)
    {m : Nat} (hp : Picked (keep.drop (1 + j)) db kb (f.s.length - f.lasts) wr (.returned (.int .i64 (m : Int))) w1) (hm : m = kept1 (keep.drop (1 + j)) (f.s.length - f.lasts)) {r : Option Nat} (hr : r = g.rows.getD i none)
    (hw : Wrote (blk g.fs i) r (f.s.take (f.lasts + m)) (f.lasts + m) w1 w2) : CrAt w w6 S p kb gb db st keep (j + 1) w2 := by
  subst hr
  obtain ⟨_, ⟨v', hb1, hk1⟩, hg1⟩ := hp
  have hne : crN st keep ≠ [] := by intro e; rw [e] at hx; simp at hx
  have hil := (List.getElem?_eq_some_iff.1 hf).1
  have hd1 : DiskG w1 S' p (crAt st keep j) g := hd.kept (fun b hb => hg1.block b (hd.lt b hb) (fun e => hkb (by cases e; exact hb))) hg1.size
  have hbn1 : Been S S' w w1 := ⟨hbn.sub, hbn.new, hbn.upon.trans' (T := fun k => k = kb) ⟨hg1.os, hg1.tape, hg1.output, hg1.size, fun k hk hn => hg1.block k hk (fun e => hn (Option.some.inj e))⟩ (fun i hi e => by omega)⟩
  have hst := hd1.wrote hf hw (q := fun f => cutF f (f.lasts + kept1 (keep.drop (1 + j)) (f.s.length - f.lasts))) (by simp only [cutF]; rw [hm]) (by
    refine hd1.fine.modF i _ fun f' hf' => ?_
    have hk := kept1_le (keep.drop (1 + j)) (f'.s.length - f'.lasts)
    simp only [cutF, List.length_take]
    omega)
  have e : ({ crAt st keep j with F := (crAt st keep j).F.modify i fun f => cutF f (f.lasts + kept1 (keep.drop (1 + j)) (f.s.length - f.lasts)) } : St) = crAt st keep (j + 1) := by
    unfold crAt
    simp only
    rw [take_snoc' hx, cutAll_snoc]
    have hl : ((crN st keep).take j).length = j := by
      have := (List.getElem?_eq_some_iff.1 hx).1
      simp; omega
    rw [hl, List.drop_drop]
  rw [e] at hst
  obtain ⟨S'', g'', hd2, hbn2⟩ := hst.get
  have hu := hw.upon
  have hfb : ∀ k, (k = blk g.fs i ∨ some k = g.rows.getD i none) → S' k := by
    rintro k (h | h)
    · rw [h]; exact hd1.files.s_f i hil
    · exact hd1.files.s_r i k h.symm
  have hs1 := hg1.size
  refine ⟨⟨S'', g'', hd2, hbn1.trans hbn2, fun h => ?_, fun hn h => ?_, fun hn h => ?_⟩, ⟨v', ?_, ?_⟩, fun _ => ?_, Nat.le_trans hsz (Nat.le_trans hs1 hu.size)⟩
  · rcases hbn2.new _ h with h | h
    · exact hkb h
    · omega
  · rcases hbn2.new _ h with h | h
    · exact hgb hn h
    · have := hgl hn; omega
  · rcases hbn2.new _ h with h | h
    · exact hdb hn h
    · have := hdl hn; omega
  · exact (hu.block kb (by omega) (fun h => hkb (hfb kb h))).trans hb1
  · rw [List.drop_drop] at hk1
    rw [show 1 + (j + 1) = 1 + j + 1 by omega]
    refine hk1.kept fun hn => ?_
    have hkn : keep ≠ [] := by intro e; rw [e] at hn; simp at hn
    exact hu.block db (by have := hdl hkn; omega) (fun h => hdb hkn (hfb db h))
  · rw [hu.block gb (by have := hgl hne; omega) (fun h => hgb hne (hfb gb h)), hg1.block gb (by have := hgl hne; omega) (fun e => hgk (Option.some.inj e))]
    exact hrow hne
end Dsk
end Go.Proofs.YtjpgglajcelllaaDoor
end
/- (*Disk).Crash, walked (layer 4). -/
section
namespace Go.Proofs.YtjpgglajcelllaaDoor
open Go.RowKit Go.Proofs
namespace Dsk
open Go.Maps
/-- Where the names' row lies. -/
theorem row_shape {w : World} {base : Nat} {v : Value} {l : List Str} (h : w.ownsRow base 9 1 v l.length (l.map encStr)) :
    ∃ gb c a, v = .slice a l.length c ∧ (l ≠ [] → a = some ⟨gb, 0, none⟩ ∧ base ≤ gb ∧ gb < w.heap.size ∧ ∀ j x, l[j]? = some x → w.cell? ⟨gb, j, none⟩ = some (.string ⟨x.toArray⟩)) := by
  have hcells := fun g => h.cells (g := g)
  rcases h.2 with ⟨hv, h0⟩ | ⟨gb, cap, cur, hv, hb, hg, _⟩
  · exact ⟨0, 0, none, by rw [hv, h0], fun hn => absurd (List.eq_nil_of_length_eq_zero h0) hn⟩
  · refine ⟨gb, cap, _, hv, fun _ => ⟨rfl, hb, lt_of_block hg, fun j x hx => ?_⟩⟩
    have := hcells gb (by rw [hv]; rfl) j (encStr x) (by simp [hx])
    have e : (⟨gb, 0, none⟩ : Addr).add j = ⟨gb, j, none⟩ := by unfold Addr.add; split <;> simp_all
    rw [e] at this
    exact this
/-- One round of the crash's loop: what its three calls leave. -/
structure Round (w w6 : World) (S : Nat → Prop) (p kb gb db : Nat) (st : St) (keep : List Int) (j i : Nat) (f : FileS) (b q : Nat) (W : World) : Prop where
  cell : W.cell? ⟨b, 2, none⟩ = some (.int .i64 (f.lasts : Int))
  len : Calls Tryd.prog 56 #[.pointer (some ⟨b, 0, none⟩)] W fun e w' => e = .returned (.int .i64 (f.s.length : Int)) ∧ W = w'
  pick : Calls Tryd.prog 84 #[.int .i64 ((f.s.length - f.lasts : Nat) : Int), .pointer (some ⟨kb, 0, none⟩)] W fun e w1 => e = .returned (.int .i64 (q : Int)) ∧ w1.cell? ⟨b, 2, none⟩ = some (.int .i64 (f.lasts : Int)) ∧
    Calls Tryd.prog 55 #[.pointer (some ⟨b, 0, none⟩), .int .i64 ((f.lasts + q : Nat) : Int)] w1 fun e w2 => e = .returned (.tuple #[]) ∧ CrAt w w6 S p kb gb db st keep (j + 1) w2
  sub : IntKind.i64.wrap ((f.s.length : Int) - (f.lasts : Int)) = ((f.s.length - f.lasts : Nat) : Int)
  add : IntKind.i64.wrap ((f.lasts : Int) + (q : Int)) = ((f.lasts + q : Nat) : Int)
theorem round_of {w w6 wr : World} {S : Nat → Prop} {p kb gb db : Nat} {st : St} {keep : List Int} {j : Nat} (h : CrAt w w6 S p kb gb db st keep j wr) (hst : ∀ f ∈ st.F, f.s.length ≤ 100000000000000) (hfine : Fine st)
    (hkl : kb < w6.heap.size) (hgl : crN st keep ≠ [] → gb < w6.heap.size) (hdl : keep ≠ [] → db < w6.heap.size) (hgk : gb ≠ kb) (hwk : w.heap.size ≤ kb)
    {x : Str} {i : Nat} (hx : (crN st keep)[j]? = some (x, i)) :
    ∃ (g : Ghost) (f : FileS) (q : Nat), wr.cell? ⟨p, 3, none⟩ = some (.map (some g.bn)) ∧ MapAt wr g.bn g.fs (crN st keep) ∧ lookN (crN st keep) x = some i ∧ wr.heap[gb]? = w6.heap[gb]? ∧ Round w w6 S p kb gb db st keep j i f (blk g.fs i) q wr.drew := by
  obtain ⟨⟨S', g, hd, hbn, hkb, hgb, hdb⟩, ⟨v', hbox, hkeep⟩, hrow, hsz⟩ := h
  have hne : crN st keep ≠ [] := by intro e; rw [e] at hx; simp at hx
  obtain ⟨-, -, -, k3, -, -, -⟩ := c6 hd.cell
  have hl : lookN (crN st keep) x = some i := look_of_mem hd.fine.nmN.rising (List.mem_of_getElem? hx)
  obtain ⟨f, hf, hfile, hll⟩ := hd.file (st := crAt st keep j) (k := x) (i := i) hl
  have hbig : f.s.length ≤ 100000000000000 := by
    have : ∀ (N : Nms) (keep : List Int) (F : List FileS), (∀ f ∈ F, f.s.length ≤ 100000000000000) → ∀ f ∈ cutAll keep N F, f.s.length ≤ 100000000000000 := by
      intro N
      induction N with
      | nil => intro _ F hF; exact hF
      | cons p r ih =>
        intro keep F hF
        unfold cutAll
        refine ih _ _ ?_
        intro f hf
        obtain ⟨i, hi, rfl⟩ := List.mem_iff_getElem.1 hf
        rw [List.getElem_modify]
        have hm := hF _ (List.getElem_mem (l := F) (by simpa using hi : i < F.length))
        split
        · simp only [cutF, List.length_take]; omega
        · exact hm
    exact this _ _ _ hst f (List.mem_of_getElem? hf)
  have hdD : DiskG wr.drew S' p (crAt st keep j) g := hd.kept (fun _ _ => rfl) (Nat.le_refl _)
  have hfD : FileAt wr.drew (blk g.fs i) (g.rows.getD i none) f.s f.lasts := hfile.kept rfl fun _ _ => rfl
  have hbD : Been S S' w wr.drew := ⟨hbn.sub, hbn.new, hbn.upon.drew⟩
  have hle := kept1_le (keep.drop (1 + j)) (f.s.length - f.lasts)
  have hbk : blk g.fs i ≠ kb := by
    rintro e
    have := hdD.files.s_f i (List.getElem?_eq_some_iff.1 hf).1
    rw [e] at this; exact hkb this
  have _ := hfine
  refine ⟨g, f, kept1 (keep.drop (1 + j)) (f.s.length - f.lasts), k3, hd.now, hl, hrow hne, (lasts_file hfD 0).1, len_any _ _ _ _ _ hfD, ?_, ?_, ?_⟩
  · refine (pick_any (keep.drop (1 + j)) db kb (f.s.length - f.lasts) v' (by omega) wr.drew hbox (hkeep.kept fun _ => rfl)).mono ?_
    intro e w1 hp
    obtain rfl : e = .returned (.int .i64 (kept1 (keep.drop (1 + j)) (f.s.length - f.lasts) : Int)) := hp.1
    have hg1 := hp.2.2
    have hf1 : FileAt w1 (blk g.fs i) (g.rows.getD i none) f.s f.lasts := hfD.kept (hg1.block _ hfD.lt (fun e => hbk (Option.some.inj e))) fun b hb => hg1.block b (hfD.row b hb) (fun e => by
      have := hdD.files.s_r i b hb
      cases e; exact hkb this)
    refine ⟨rfl, (lasts_file hf1 0).1, ?_⟩
    refine (cut_any (blk g.fs i) _ f.s f.lasts (f.lasts + kept1 (keep.drop (1 + j)) (f.s.length - f.lasts)) w1 hf1 (by omega) (by omega)).mono ?_
    rintro e w2 ⟨rfl, hw⟩
    exact ⟨rfl, crAt_step hdD hbD hkb hgb hdb hkl hgl hdl hgk hwk hrow hsz hx hf hp rfl rfl hw⟩
  · rw [IntWalk.i64_in _ (by omega)]; omega
  · rw [IntWalk.i64_in _ (by omega)]; omega
set_option maxHeartbeats 8000000 in
set_option maxRecDepth 100000 in
theorem crash_any (S : Nat → Prop) (p : Nat) (st : St) (keep : List Int) (v : Value) (db : Nat) (w : World) (h : IsDisk w S p st) (hk : KeepAt w v keep db) (hdb : keep ≠ [] → db < w.heap.size ∧ ¬ S db)
    (hlen : ∀ f ∈ st.F, f.s.length ≤ 100000000000000) (hC : st.C.length ≤ 1000000000) :
    Calls Tryd.prog 24 #[.pointer (some ⟨p, 0, none⟩), v] w fun e w' => e = .returned (.tuple #[]) ∧ Step S p (crash st keep) w w' := by
  have hslt := h.lt
  obtain ⟨g, hd⟩ := h
  obtain ⟨a, c, rfl, hkl1, hkl2, hkl3⟩ := hk
  have hk' : KeepAt (w.alloc (.cells #[.slice a keep.length c] 43 (0, 0))) (.slice a keep.length c) keep db := KeepAt.kept ⟨a, c, rfl, hkl1, hkl2, hkl3⟩ fun hn => Below.heap_alloc _ _ _ (hdb hn).1
  have hup1 : Upon (fun _ => False) w (w.alloc (.cells #[.slice a keep.length c] 43 (0, 0))) := (Upon.refl _ w).alloc _
  have hd1 : DiskG (w.alloc (.cells #[.slice a keep.length c] 43 (0, 0))) S p st g := hd.kept (fun b hb => hup1.block b (hslt b hb) fun h => h) hup1.size
  obtain ⟨-, -, -, -, -, k5, -⟩ := c6 hd1.cell
  obtain ⟨ca, cc, hcv⟩ : ∃ a c, g.cv = .slice a st.C.length c := by
    rcases hd1.chs.row.2 with ⟨hv, h0⟩ | ⟨gb, cap, cur, hv, _⟩
    · exact ⟨none, 0, by rw [hv, h0]⟩
    · exact ⟨_, _, hv⟩
  rw [hcv] at k5
  have HPK := Lib.hid (pick_any keep db w.heap.size st.C.length _ (by omega) _ (cell_new w _) hk')
  have HD1 := Lib.hid hd1
  have HSL := Lib.hid hslt
  have HDB := Lib.hid hdb
  have HUP := Lib.hid hup1
  clear hd hk' hup1 hd1 hcv hkl1 hkl2 hkl3 hslt hdb
  have pl := HD1.out.lt p HD1.out.s_p
  go_enter Tryd.func24, Tryd.ntmps24
  go_wp2_with fail
  refine (picker_any a keep.length c w).mono ?_
  rintro e w1 ⟨rfl, rfl⟩
  go_wp2_with fail
  refine HPK.out.mono ?_
  intro e w2 hp
  obtain rfl : e = .returned (.int .i64 (kept1 keep st.C.length : Int)) := hp.1
  obtain ⟨_, ⟨v2, hbox2, hkeep2⟩, hg2⟩ := hp
  have hd2 : DiskG w2 S p st g := HD1.out.kept (fun b hb => hg2.block b (HD1.out.lt b hb) (fun e => by have := HSL.out b hb; cases e; omega)) hg2.size
  have HST := Lib.hid (settle_any S p st (kept1 keep st.C.length) (kept1_le _ _) w2 ⟨g, hd2⟩)
  have HB2 := Lib.hid hbox2
  have HK2 := Lib.hid hkeep2
  have HU2 := Lib.hid (show Upon (fun _ => False) w w2 from HUP.out.trans' (T := fun k => k = w.heap.size) ⟨hg2.os, hg2.tape, hg2.output, hg2.size, fun k hk hn => hg2.block k hk (fun e => hn (Option.some.inj e))⟩ (fun i hi e => by omega))
  have HF := Lib.hid hd2.fine
  clear hbox2 hkeep2 hg2 hd2 HPK k5
  go_wp2_with fail
  refine HST.out.mono ?_
  rintro e w3 ⟨rfl, ⟨g3, hm3⟩, hu3⟩
  obtain ⟨-, -, -, -, k4, -, -⟩ := c6 hm3.cell
  have HM3 := Lib.hid hm3
  have HU3 := Lib.hid hu3
  have HCL := Lib.hid (clone_any g3.bl g3.fs _ w3 hm3.last)
  clear hm3 hu3 HST
  go_wp2_with fail
  refine HCL.out.mono ?_
  rintro e w4 ⟨rfl, hm4, hb4⟩
  obtain ⟨⟨q3, q1, q2, qf⟩, S5, g5, hd5, hbn5, hnew5⟩ := crash_mid (keep := keep) HF.out HM3.out hm4 hb4 HU3.out
  have qf3 := qf 3
  have qf1 := qf 1
  have qf2 := qf 2
  have HNM := Lib.hid (names_any S5 p (crAt st keep 0) _ ⟨g5, hd5⟩)
  have HD5 := Lib.hid hd5
  have HBN5 := Lib.hid hbn5
  have HNW5 := Lib.hid hnew5
  have HB4 := Lib.hid hb4
  clear hm4 hb4 hd5 hbn5 hnew5 qf k4 HCL
  go_wp2_with fail
  refine HNM.out.mono ?_
  rintro e w6 ⟨v6, rfl, hrow6, _, hb6⟩
  have en : names (crAt st keep 0) = (crN st keep).map (·.1) := rfl
  rw [en] at hrow6
  obtain ⟨gb, c6', a6, rfl, hrc⟩ := row_shape hrow6
  have s5 : (((w4.setCell ⟨p, 3, none⟩ (.map (some w3.heap.size))).setCell ⟨p, 1, none⟩ (.bool true)).setCell ⟨p, 2, none⟩ (.int .i64 (-1))).heap.size = w4.heap.size := by simp [World.setCell]
  rw [s5] at hrc
  have s34 := HB4.out.size
  have s23 := HU3.out.size
  have s02 := HU2.out.size
  have s46 := hb6.size
  rw [s5] at s46
  have hkb2 := lt_of_block HB2.out
  have hpw := HSL.out p HD1.out.s_p
  have hkbS : ¬ S w.heap.size := fun hS => by have := HSL.out _ hS; omega
  have hstart : CrAt w w6 S p w.heap.size gb db st keep 0 w6 := by
    have hmove : ∀ b, b < w2.heap.size → ¬ S b → b ≠ p → w6.heap[b]? = w2.heap[b]? := by
      intro b hb hS hne
      rw [hb6.block b (by rw [s5]; omega), Below.heap_setCell _ _ _ _ hne, Below.heap_setCell _ _ _ _ hne, Below.heap_setCell _ _ _ _ hne, HB4.out.block b (by omega), HU3.out.block b hb hS]
    refine ⟨⟨S5, g5, HD5.out.kept (fun b hb => hb6.block b (HD5.out.lt b hb)) hb6.size, ⟨HBN5.out.sub, fun b hb => (HBN5.out.new b hb).elim .inl fun h => .inr (Nat.le_trans s02 h), (HU2.out.mono fun _ _ h => h.elim).trans' (HBN5.out.upon.trans' (Upon.of_below hb6 (fun _ => False)) fun _ _ h => h.elim) fun _ _ h => h⟩, fun h => ?_, fun hn h => ?_, fun hn h => ?_⟩, ?_, fun _ => rfl, Nat.le_refl _⟩
    · rcases HNW5.out _ h with h | h
      · exact hkbS h
      · omega
    · have h1 := HD5.out.lt _ h
      rw [s5] at h1
      have h2 := (hrc (by simpa using hn)).2.1
      omega
    · rcases HNW5.out _ h with h | h
      · exact (HDB.out hn).2 h
      · have := (HDB.out hn).1; omega
    · refine ⟨v2, (hmove _ hkb2 hkbS (by omega)).trans HB2.out, HK2.out.kept fun hn => ?_⟩
      have hn' : keep ≠ [] := by intro e; rw [e] at hn; simp at hn
      have := (HDB.out hn').1
      exact hmove db (by omega) (HDB.out hn').2 (by
        rintro rfl; exact (HDB.out hn').2 HD1.out.s_p)
  have HST0 := Lib.hid hstart
  have hkl : w.heap.size < w6.heap.size := by omega
  have hdl : keep ≠ [] → db < w6.heap.size := fun hn => by have := (HDB.out hn).1; omega
  have HKL := Lib.hid hkl
  have HDL := Lib.hid hdl
  have hlenN : ((crN st keep).map (·.1)).length = (crN st keep).length := by simp
  have hln := HD5.out.fine.nmN.len
  rw [hlenN]
  by_cases hn0 : crN st keep = []
  · have HE := Lib.hid (show Step S p (crash st keep) w w6 by
      obtain ⟨S', g, h1, h2, _⟩ := HST0.out.disk
      have h3 := crAt_end st keep
      rw [hn0] at h3
      have h4 : crAt st keep 0 = crash st keep := h3
      rw [h4] at h1
      exact h2.step (Step.same ⟨g, h1⟩))
    rw [hn0]
    clear hrow6 hb6 hrc hstart s34 s23 s02 s46 hkl hdl s5 en hn0 hlenN hln
    go_wp2_with fail
    refine wp_loop_rounds 1 ?_
    rw [rounds_succ]
    go_wp2
    go_end0
    exact ⟨rfl, HE.out⟩
  · obtain ⟨rfl, hgb1, hgb2, hcell⟩ := hrc (by simpa using hn0)
    have hgl : crN st keep ≠ [] → gb < w6.heap.size := fun _ => hgb2
    have hgk : gb ≠ w.heap.size := by omega
    have HGL := Lib.hid hgl
    have HGK := Lib.hid hgk
    have HCE := Lib.hid hcell
    have HLF := Lib.hid hlen
    obtain ⟨n, hn⟩ : ∃ n, n = (crN st keep).length := ⟨_, rfl⟩
    have HN := Lib.hid hn
    have hnb : n ≤ 64 := by rw [hn]; exact hln
    rw [← hn]
    clear hrow6 hb6 hrc hstart s34 s23 s02 s46 hkl hdl s5 en hn0 hlenN hln hgl hgk hcell hlen hn hgb1
    go_wp2_with fail
    go_loopw [36] (fun i wr => ∃ j : Nat, j ≤ n ∧ i = .int .i64 (j : Int) ∧ CrAt w w6 S p w.heap.size gb db st keep j wr) (fun i _ => n - (intOf i).toNat)
    case atStart => exact ⟨0, Nat.zero_le _, rfl, HST0.out⟩
    case round =>
      obtain ⟨j, hj, rfl, hcr⟩ := hrel
      by_cases hlt : j < n
      · obtain ⟨⟨x, i⟩, hx⟩ : ∃ y, (crN st keep)[j]? = some y := ⟨_, List.getElem?_eq_getElem (by rw [← HN.out]; exact hlt)⟩
        obtain ⟨g, f, q, k3, hmap, hlk, hrw, hround⟩ := round_of hcr HLF.out HF.out HKL.out HGL.out HDL.out HGK.out (Nat.le_refl _) hx
        have hcx : wr.cell? ⟨gb, j, none⟩ = some (.string ⟨x.toArray⟩) := (World.cell?_of_block (w := w6) (a := ⟨gb, j, none⟩) hrw).trans (HCE.out j x (by simp [hx]))
        have hxs : (⟨x.toArray⟩ : ByteArray).size ≤ maxLen := by
          have := HD5.out.fine.nmN.nm (x, i) (List.mem_of_getElem? hx)
          show x.toArray.size ≤ maxLen
          have e : x.toArray.size = x.length := rfl
          unfold nameOk at this
          unfold maxLen; simp only at this; omega
        have HM := Lib.hid hmap
        have HLK := Lib.hid (show lookN (crN st keep) (⟨x.toArray⟩ : ByteArray).data.toList = some i from hlk)
        have HRO := Lib.hid hround
        clear hx hmap hlk hrw hround hcr
        obtain ⟨xs, hxx⟩ : ∃ s : ByteArray, s = ⟨x.toArray⟩ := ⟨_, rfl⟩
        rw [← hxx] at hcx hxs HLK
        clear hxx
        go_upto_block 1 with fail
        go_cut [36] from 36 to 64 (fun i36 wx => i36 = .int .i64 (j : Int) ∧ CrAt w w6 S p w.heap.size gb db st keep (j + 1) wx)
        case first =>
          go_wp2_with (at_lookup; refine wpList_look_some _ rfl _ _ rfl g.bn g.fs _ rfl HM.out xs rfl hxs i HLK.out ?_)
          obtain ⟨rc, rlen, rpick, rsub, radd⟩ := HRO.out
          replace rlen := Lib.hid rlen
          replace rpick := Lib.hid rpick
          clear k3 hcx
          go_region_with (first
            | (go_at_call 56; refine rlen.out.mono ?_; rintro e w1 ⟨rfl, rfl⟩)
            | (go_at_call 84; refine rpick.out.mono ?_; rintro e w1 ⟨rfl, rc1, rcut⟩; replace rcut := Lib.hid rcut)
            | (go_at_call 55; refine rcut.out.mono ?_; rintro e w2 ⟨rfl, rend⟩; replace rend := Lib.hid rend))
          all_goals (go_wp2_with fail; go_meet; exact ⟨rfl, rend.out⟩)
        case rest =>
          obtain ⟨rfl, hcr⟩ := hcut
          replace hcr := Lib.hid hcr
          clear k3 hcx
          go_wp2
          go_roundw
          case rel => exact ⟨j + 1, by omega, by go_num, hcr.out⟩
          case measure => simp [intOf]; omega
      · obtain rfl : j = n := by omega
        have HE := Lib.hid (show Step S p (crash st keep) w wr by
          obtain ⟨S', g, h1, h2, _⟩ := hcr.disk
          rw [HN.out, crAt_end] at h1
          exact h2.step (Step.same ⟨g, h1⟩))
        clear hcr
        go_wp2
        go_end0
        exact ⟨rfl, HE.out⟩
end Dsk
end Go.Proofs.YtjpgglajcelllaaDoor
end
/- The law's own trial of the disk (layer 4, 'works'): a disk that the call has made itself, step by step. -/
section
namespace Go.Proofs.YtjpgglajcelllaaDoor
open Go.RowKit
namespace Dsk
open Go.Maps
/-- A disk that was made since W: all that it has is new, all that was there is as it was. -/
def Own (W : World) (p : Nat) (st : St) (w : World) : Prop := ∃ S, IsDisk w S p st ∧ (∀ b, S b → W.heap.size ≤ b) ∧ Below W.heap.size W w
theorem Own.below {W w : World} {p : Nat} {st : St} (h : Own W p st w) : Below W.heap.size W w := let ⟨_, _, _, h⟩ := h; h
theorem Own.fine {W w : World} {p : Nat} {st : St} (h : Own W p st w) : Fine st := let ⟨_, h, _, _⟩ := h; h.fine
theorem Own.step {W w w' : World} {S : Nat → Prop} {p : Nat} {st' : St} (hS : ∀ b, S b → W.heap.size ≤ b) (hb : Below W.heap.size W w) (hs : Step S p st' w w') : Own W p st' w' := by
  obtain ⟨⟨S', h1, _, h3⟩, hu⟩ := hs
  exact ⟨S', h1, fun b hb' => (h3 b hb').elim (hS b) fun h => Nat.le_trans hb.size h, hb.trans (hu.below hb.size hS)⟩
theorem Own.grow {W w w' : World} {p : Nat} {st : St} (h : Own W p st w) (hu : Upon (fun _ => False) w w') : Own W p st w' := by
  obtain ⟨S, h1, h2, h3⟩ := h
  exact ⟨S, h1.upon hu fun _ _ h => h, h2, h3.trans (hu.below h3.size fun _ h => h.elim)⟩
theorem Own.made {W w w' : World} {room : Int} {e : Ending} (hb : Below W.heap.size W w) (h : Made room w e w') : ∃ p, e = .returned (.pointer (some ⟨p, 0, none⟩)) ∧ Own W p (new room) w' := by
  obtain ⟨S, p, he, h1, h2, hu⟩ := h
  exact ⟨p, he, S, h1, fun b hb' => Nat.le_trans hb.size (h2 b hb'), hb.trans (hu.below hb.size fun _ h => h.elim)⟩
theorem Own.call {W w : World} {p : Nat} {st st' : St} (h : Own W p st w) {f : FuncId} {args : Array Value} {x : Ending} (hc : ∀ S, IsDisk w S p st → Calls Tryd.prog f args w fun e w' => e = x ∧ Step S p st' w w') :
    Calls Tryd.prog f args w fun e w' => e = x ∧ Own W p st' w' := by
  obtain ⟨S, h1, h2, h3⟩ := h
  exact (hc S h1).mono fun e w' ⟨he, hs⟩ => ⟨he, Own.step h2 h3 hs⟩
/-- As long as no file, and no row of changes, is greater than the model bears. -/
structure Small (st : St) (z : Nat) : Prop where
  used : used st + z ≤ 4000000000000000000
  file : ∀ f ∈ st.F, f.s.length + z ≤ 100000000000000
  chs : st.C.length ≤ 1000000000
  z : z ≤ 100000000000000
theorem Own.append {W w : World} {p : Nat} {st : St} (h : Own W p st w) (s t : ByteArray) (hs : s.size ≤ maxLen) (hz : Small st t.size) :
    Calls Tryd.prog 27 #[.pointer (some ⟨p, 0, none⟩), .string s, .string t] w fun e w' => e = .returned (.int .i64 (appE st s.data.toList t.data.toList)) ∧ Own W p (appS st s.data.toList t.data.toList) w' :=
  h.call fun S hd => app_any S p st s t hs hz.used (fun f hf => by have := hz.file f hf; omega) (by have := hz.z; omega) hz.chs w hd
theorem Own.read {W w : World} {p : Nat} {st : St} (h : Own W p st w) (s : ByteArray) (hs : s.size ≤ maxLen) :
    Calls Tryd.prog 57 #[.pointer (some ⟨p, 0, none⟩), .string s] w fun e w' => e = .returned (.tuple #[.string ⟨(readA st s.data.toList).toArray⟩, .int .i64 (readE st s.data.toList)]) ∧ Own W p st w' :=
  h.call fun S hd => read_any S p st s hs w hd
theorem Own.fuse {W w : World} {p : Nat} {st : St} (h : Own W p st w) (n : Int) (hn : -9223372036854775808 ≤ n ∧ n ≤ 9223372036854775807) :
    Calls Tryd.prog 23 #[.pointer (some ⟨p, 0, none⟩), .int .i64 n] w fun e w' => e = .returned (.tuple #[]) ∧ Own W p (fuse st n) w' :=
  h.call fun S hd => fuse_any S p st n hn w hd
theorem Own.used {W w : World} {p : Nat} {st : St} (h : Own W p st w) (hu : Dsk.used st ≤ 4000000000000000000) :
    Calls Tryd.prog 62 #[.pointer (some ⟨p, 0, none⟩)] w fun e w' => e = .returned (.int .i64 (Dsk.used st : Int)) ∧ Own W p st w' := by
  have h0 := h
  obtain ⟨S, h1, _, _⟩ := h; exact (used_any S p st w h1 hu).mono fun e w' ⟨he, hu⟩ => ⟨he, h0.grow hu⟩
/-- Names: how many. -/
theorem Own.names {W w : World} {p : Nat} {st : St} (h : Own W p st w) :
    Calls Tryd.prog 26 #[.pointer (some ⟨p, 0, none⟩)] w fun e w' => NamesAre (Dsk.names st) w e w' ∧ Own W p st w' := by
  have h0 := h
  obtain ⟨S, h1, _, _⟩ := h
  exact (names_any S p st w h1).mono fun e w' hn => ⟨hn, h0.grow (by obtain ⟨_, _, _, _, hb⟩ := hn; exact Upon.of_below hb _)⟩
/-! ### the trial, as plain data -/
def wk0 : St := new 100
def wk1 : St := appS wk0 [97] [120, 121]
def wk2 : St := syncS wk1 [97]
end Dsk
end Go.Proofs.YtjpgglajcelllaaDoor
end
/- A row of numbers among the arguments, opened and copied; a crash with it (layer 4). -/
section
namespace Go.Proofs.YtjpgglajcelllaaDoor
open Go.RowKit Go.ChangeShapes Go.WideShapes
namespace Dsk
theorem infoInt : (Tryd.prog.info? 3).map (fun i => (i.zero, i.size, i.bytes)) = some (some (.int .i64 0), 1, 8) := by kernel_rfl
/-- append([]int{}, v...): a copy in a block of its own. -/
theorem run_copy (w : World) (g : Nat) (hg : w.heap[g]? = some (.cells #[] 3 (0, 0))) (v : Value) (ks : List Int) (db : Nat) (hk : KeepAt w v ks db) (hlen : ks.length ≤ 1000000) (ty : TypeId) :
    ∃ v' db' w', (Builtin.append_ #[43, 43] ty #[.slice (some ⟨g, 0, none⟩) 0 0, v]).run Tryd.prog w = .ok v' w' ∧ KeepAt w' v' ks db' ∧ Upon (fun _ => False) w w' ∧ (ks ≠ [] → w.heap.size ≤ db' ∧ db' < w'.heap.size) := by
  obtain ⟨i0, hi, hz0, hz1, hz2⟩ := info_parts infoInt
  obtain ⟨a, c, rfl, h1, h2, h3⟩ := hk
  cases hks : ks with
  | nil =>
    subst hks
    refine ⟨.slice (some ⟨g, 0, none⟩) 0 0, g, w, ?_, ⟨_, _, rfl, Nat.le_refl _, Nat.zero_le _, fun h => absurd rfl h⟩, Upon.refl _ _, fun h => absurd rfl h⟩
    cases a with
    | none => simp [Builtin.append_, run_underlying Tryd.underlying43, sizeOf, typeInfo, hi, Builtin.lenOf, Builtin.firstCells, loadCells, loadCellsFrom, storeCells]
    | some a => simp [Builtin.append_, run_underlying Tryd.underlying43, sizeOf, typeInfo, hi, Builtin.lenOf, Builtin.firstCells, loadCells, loadCellsFrom, storeCells]
  | cons x r =>
    rw [← hks]
    have hn : ks ≠ [] := by rw [hks]; simp
    obtain ⟨o, rfl, hc⟩ := h3 hn
    have hown : w.ownsRow 0 3 1 (.slice (some ⟨g, 0, none⟩) 0 0) 0 [] := ⟨rfl, .inr ⟨g, 0, #[], rfl, Nat.zero_le _, hg, Nat.le_refl _, Nat.zero_le _, rfl, rfl⟩⟩
    have hpos : 0 < ks.length := List.length_pos_iff.2 hn
    have hr := run_append_grow (P := Tryd.prog) w 43 ty 3 i0 (.int .i64 0) Tryd.underlying43 hi hz0 ⟨g, 0, none⟩ 0 0 [] (by simp) (fun j v h => by simp at h) ⟨db, o, none⟩ ks.length c (ks.map (Value.int .i64)) (by simp [hz1]) (fun j v hj => by
      obtain ⟨y, hy, rfl⟩ : ∃ y, ks[j]? = some y ∧ Value.int .i64 y = v := by simpa using hj
      have e : (⟨db, o, none⟩ : Addr).add j = ⟨db, o + j, none⟩ := by unfold Addr.add; split <;> simp_all
      rw [e]; exact (hc j y hy).1) (by omega) (by omega) (by rw [hz2]; exact growslice_fits (by omega) (by omega))
    simp only [Nat.zero_add] at hr
    have hge := grownCap_ge w ks.length 0 3
    have hcm := grownCap_le_maxLen w ks.length 0 3 (by unfold maxLen; omega)
    refine ⟨_, w.heap.size, _, hr, ⟨_, _, rfl, hge, hcm, fun _ => ⟨0, rfl, fun j y hy => ?_⟩⟩, Upon.alloc (Upon.drew (Upon.refl _ w)) _, fun _ => ⟨Nat.le_refl _, by simp⟩⟩
    have hj := (List.getElem?_eq_some_iff.1 hy).1
    refine ⟨?_, (hc j y hy).2⟩
    refine (Lib.cell_of_heap (show (w.drew.alloc _).heap[w.heap.size]? = some _ from cell_new w.drew _) (0 + j)).trans ?_
    rw [Nat.zero_add, Array.empty_append, Array.getElem?_append_left (by simpa using hj)]
    simp [hy]
theorem wpList_copy (w : World) {ops : Array Oper} {rest : List Oper} {o : Oper} {a : Act} {Q : Exit → Act → World → Prop} (hgd : o.guard = none) (sl x : Operand)
    (ho : o.op = .call { callee := .builtin .append, args := #[sl, x], argTypes := #[43, 43] })
    (g : Nat) (hg : w.heap[g]? = some (.cells #[] 3 (0, 0))) (v : Value) (ks : List Int) (db : Nat) (hs : a.eval sl = .slice (some ⟨g, 0, none⟩) 0 0) (hx : a.eval x = v) (hk : KeepAt w v ks db) (hlen : ks.length ≤ 1000000)
    (hK : ∀ v' db' w', KeepAt w' v' ks db' → Upon (fun _ => False) w w' → (ks ≠ [] → w.heap.size ≤ db' ∧ db' < w'.heap.size) → wpList Tryd.prog ops Q rest (a.put o.dst v') w') : wpList Tryd.prog ops Q (o :: rest) a w := by
  refine wpList_plain hgd fun K hK' => ?_
  obtain ⟨v', db', w', hr, h2, h3, h4⟩ := run_copy w g hg v ks db hk hlen o.type
  unfold Oper.wp execOp
  simp only [ho, resolve, invoke, builtin, Sem.run_bind, Sem.run_pure, Result.andThen_ok, List.map_toArray, List.map_cons, List.map_nil, hs, hx, hr]
  exact hK' _ _ (hK v' db' w' h2 h3 h4)
/-- A crash with numbers that lie in a block that is none of the disk's. -/
theorem Own.crash {W w w' : World} {p : Nat} {st : St} (h : Own W p st w) (hu : Upon (fun _ => False) w w') {v : Value} {ks : List Int} {db : Nat} (hk : KeepAt w' v ks db) (hdb : ks ≠ [] → w.heap.size ≤ db ∧ db < w'.heap.size) (hz : Small st 0) :
    Calls Tryd.prog 24 #[.pointer (some ⟨p, 0, none⟩), v] w' fun e w'' => e = .returned (.tuple #[]) ∧ Own W p (Dsk.crash st ks) w'' := by
  obtain ⟨S, h1, h2, h3⟩ := h
  have h0 := Own.grow ⟨S, h1, h2, h3⟩ hu
  have hd : IsDisk w' S p st := h1.upon hu fun _ _ h => h
  exact (crash_any S p st ks v db w' hd hk (fun hn => ⟨(hdb hn).2, fun hS => by have := h1.lt _ hS; have := (hdb hn).1; omega⟩) (fun f hf => by have := hz.file f hf; omega) hz.chs).mono fun e w'' ⟨he, hs⟩ => ⟨he, Own.step h2 h0.below hs⟩
end Dsk
end Go.Proofs.YtjpgglajcelllaaDoor
end
