/- (*Disk).Append (layer 4). -/
import Derived.Test.YtfpphahdbhelcaaDiskDo
import Derived.RegionTactic
import Derived.ChangeAlike
import Derived.Lib.QuietBelow
import Derived.Outline
namespace Go.Proofs.Ytfpphahdbhelcaa
open Go.RowKit Go.Sort
namespace Dsk
open Go.Maps

set_option maxHeartbeats 3200000 in
set_option maxRecDepth 100000 in
theorem app_dead (S : Nat → Prop) (p : Nat) (st : St) (s t : ByteArray) (w : World) (h : IsDisk w S p st) (hb : wrB st = false) :
    Calls Try.prog 20 #[.pointer (some ⟨p, 0, none⟩), .string s, .string t] w fun e w' => e = .returned (.int .i64 11) ∧ Step S p (wrS st) w w' := by
  have hu0 : Upon (fun _ => False) w (w.alloc (.cells #[.string s] 9 (0, 0))) := (Upon.refl _ w).alloc _
  have h0 : IsDisk (w.alloc (.cells #[.string s] 9 (0, 0))) S p st := h.upon hu0 fun _ _ h => h
  have HW := Lib.hid (wr_is S p st _ h0 hb)
  have HU := Lib.hid hu0
  clear h h0 hb hu0
  go_enter Try.func20, Try.ntmps20
  go_wp2_with fail
  refine HW.out.mono ?_
  rintro e w1 ⟨rfl, hs1⟩
  have HS := Lib.hid (Step.first HU.out hs1)
  clear hs1
  go_wp2
  go_ret
  exact ⟨rfl, HS.out⟩

theorem box_of {S : Nat → Prop} {p : Nat} {st : St} {w w1 : World} {x : Obj} (hlt : ∀ b, S b → b < w.heap.size) (h1 : Step S p st (w.alloc x) w1) : w1.heap[w.heap.size]? = some x :=
  (h1.upon.block w.heap.size (by simp) (fun hS => by have := hlt _ hS; omega)).trans (cell_new w _)

set_option maxHeartbeats 3200000 in
set_option maxRecDepth 100000 in
theorem app_noname (S : Nat → Prop) (p : Nat) (st : St) (s t : ByteArray) (hs : s.size ≤ maxLen) (w : World) (h : IsDisk w S p st) (hb : wrB st = true) (hn : isName s.data.toList = false) :
    Calls Try.prog 20 #[.pointer (some ⟨p, 0, none⟩), .string s, .string t] w fun e w' => e = .returned (.int .i64 3) ∧ Step S p (wrS st) w w' := by
  have hu0 : Upon (fun _ => False) w (w.alloc (.cells #[.string s] 9 (0, 0))) := (Upon.refl _ w).alloc _
  have h0 : IsDisk (w.alloc (.cells #[.string s] 9 (0, 0))) S p st := h.upon hu0 fun _ _ h => h
  have HW := Lib.hid (wr_is S p st _ h0 hb)
  have HU := Lib.hid hu0
  have HLT := Lib.hid h.lt
  have HN := Lib.hid (name_is s hs hn)
  clear h h0 hb hu0 hn
  go_enter Try.func20, Try.ntmps20
  go_wp2_with fail
  refine HW.out.mono ?_
  rintro e w1 ⟨rfl, hs1⟩
  have HS := Lib.hid (Step.first HU.out hs1)
  have cb := cell_of_one (box_of HLT.out hs1)
  clear hs1
  go_wp2_with fail
  refine (HN.out _).mono ?_
  rintro e w2 ⟨rfl, rfl⟩
  go_wp2
  go_ret
  exact ⟨rfl, HS.out⟩

/-- What is laid ahead of the test whether there is room: at the world w2 behind the look-up. -/
structure Room (w2 : World) (S : Nat → Prop) (p b7 : Nat) (st : St) (g : Ghost) (x : Value) (z : Nat) : Prop where
  disk : DiskG w2 S p st g
  box : w2.heap[b7]? = some (.cells #[x] 61 (0, 0))
  cell0 : ∀ d os, (grow (redrawn w2 d) os).cell? ⟨p, 0, none⟩ = some (.int .i64 st.room)
  cell3 : ∀ d os, (grow (redrawn w2 d) os).cell? ⟨p, 3, none⟩ = some (.map (some g.bn))
  cell7 : ∀ d os, (grow (redrawn w2 d) os).cell? ⟨b7, 0, none⟩ = some x
  len : ∀ d os ty, (Builtin.len_ #[57] ty #[.map (some g.bn)]).run Try.prog (grow (redrawn w2 d) os) = .ok (.int .i64 st.N.length) (grow (redrawn w2 d) os)
  used : ∀ d os, Calls Try.prog 17 #[.pointer (some ⟨p, 0, none⟩)] (grow (redrawn w2 d) os) fun e w' => e = .returned (.int .i64 (used st : Int)) ∧ Below (grow (redrawn w2 d) os).heap.size (grow (redrawn w2 d) os) w'
  wrap : IntKind.i64.wrap ((Dsk.used st : Int) + (z : Int)) = (Dsk.used st : Int) + (z : Int)

theorem room_of {w1 : World} {S : Nat → Prop} {p : Nat} {st : St} {g : Ghost} (hd : DiskG w1 S p st g) (x : Value) (z : Nat) (hu : used st + z ≤ 4000000000000000000) :
    Room (w1.alloc (.cells #[x] 61 (0, 0))).drew S p w1.heap.size st g x z := by
  have hup : Upon (fun _ => False) w1 (w1.alloc (.cells #[x] 61 (0, 0))).drew := Upon.drew ((Upon.refl _ w1).alloc _)
  have hd2 : DiskG (w1.alloc (.cells #[x] 61 (0, 0))).drew S p st g := hd.kept (fun b hb => hup.block b (hd.lt b hb) fun h => h) hup.size
  obtain ⟨k0, -, -, k3, -, -, -⟩ := c6 hd2.cell
  have hb : (w1.alloc (.cells #[x] 61 (0, 0))).drew.heap[w1.heap.size]? = some (.cells #[x] 61 (0, 0)) := cell_new w1 _
  have hk : ∀ d os, DiskG (grow (redrawn (w1.alloc (.cells #[x] 61 (0, 0))).drew d) os) S p st g := fun d os =>
    hd2.kept (fun b hb => (below_regrown _ d os).block b (hd2.lt b hb)) (below_regrown _ d os).size
  refine ⟨hd2, hb, fun d os => cell_regrown k0 d os, fun d os => cell_regrown k3 d os, fun d os => cell_regrown (cell_of_one hb) d os, fun d os ty => ?_, fun d os => ?_, IntWalk.i64_in _ (by omega)⟩
  · have := World.ownsMap.len (hk d os).now Try.underlying57 ty
    rw [toD_size] at this
    exact this
  · exact (used_any S p st _ ⟨g, hk d os⟩ (by omega)).mono fun e w' ⟨h1, h2⟩ => ⟨h1, h2.below (Nat.le_refl _) (fun _ h => h.elim)⟩

theorem DiskG.newFile {w w' : World} {S T : Nat → Prop} {p : Nat} {st : St} {g : Ghost} {b : Nat} (h : DiskG w S p st g) (hb : FileAt w' b none [] 0) (hn : w.heap.size ≤ b) (hk : ∀ c, S c → w'.heap[c]? = w.heap[c]?)
    (hS : ∀ c, more S w w' c → T c) (hT : ∀ c, T c → c < w'.heap.size) : DiskG w' T p { st with F := st.F ++ [⟨[], 0⟩] } { g with fs := g.fs ++ [b], rows := g.rows ++ [none] } := by
  have hS' : ∀ c, S c → T c := fun c hc => hS c (.inl hc)
  have hL := h.fine.nmL'
  have hN := h.fine.nmN
  exact {
    fine := ⟨h.fine.rising, h.fine.now, h.fine.good, fun q hq => by have := h.fine.ins q hq; simp; omega, h.fine.len, h.fine.nmL, fun c hc => (h.fine.chs c hc).mono (by simp), fun f hf => by
      rcases List.mem_append.1 hf with hf | hf
      · exact h.fine.lasts f hf
      · simp at hf; subst hf; exact Nat.le_refl _, h.fine.left⟩
    cell := (hk p h.s_p).trans h.cell
    fuse := h.fuse
    wf := h.wf
    wr := h.wr
    now := (h.now.kept (hk _ h.s_n)).more (fun q hq => by rw [h.files.flen]; exact hN.ins q hq) _
    last := (h.last.kept (hk _ h.s_l)).more (fun q hq => by rw [h.files.flen]; exact hL.ins q hq) _
    two := h.two
    files := (h.files.snoc hb hn hk).mono hS
    chs := ((h.chs.kept hk).more (fun c hc => by rw [h.files.flen]; exact h.fine.chs c hc) _).mono hS'
    s_p := hS' _ h.s_p
    s_n := hS' _ h.s_n
    s_l := hS' _ h.s_l
    lt := hT }

theorem modify_snoc {α : Type} (l : List α) (x : α) (q : α → α) : (l ++ [x]).modify l.length q = l ++ [q x] := by
  apply List.ext_getElem?
  intro i
  rw [List.getElem?_modify]
  rcases Nat.lt_trichotomy i l.length with h | h | h
  · rw [List.getElem?_append_left h, List.getElem?_append_left h]
    have : ¬ l.length = i := by omega
    simp [this]
  · subst h; simp
  · have h1 : l.length + 1 ≤ i := h
    rw [List.getElem?_eq_none (by simpa using h1), List.getElem?_eq_none (by simpa using h1)]; rfl

/-- Behind the call of change: the new file may be written. -/
def NewReady (S : Nat → Prop) (p b7 fb : Nat) (st : St) (k t : Str) (w w5 : World) : Prop :=
  w5.heap[b7]? = some (.cells #[.pointer (some ⟨fb, 0, none⟩)] 61 (0, 0)) ∧ ∃ r, FileAt w5 fb r [] 0 ∧ ∀ w6, Wrote fb r t 0 w5 w6 → Step S p (addF st k t) w w6

theorem new_file {S S' : Nat → Prop} {p : Nat} {st : St} {g : Ghost} {s : ByteArray} {w w1 w3 : World} (t : Str) (hd : DiskG w1 S' p st g) (hbn : Been S S' w w1) (hbx : w1.heap[w.heap.size]? = some (.cells #[.string s] 9 (0, 0)))
    (hup : Upon (fun _ => False) w1 w3) (hb7 : w3.heap[w1.heap.size]? = some (.cells #[.pointer none] 61 (0, 0))) (hl : lookN st.N s.data.toList = none) (hn : isName s.data.toList = true) (h64 : st.N.length ≠ 64) (hC : st.C.length ≤ 1000000000) :
    Calls Try.prog 41 #[.pointer (some ⟨p, 0, none⟩), .func (.func 42) #[] #[.pointer (some ⟨w1.heap.size, 0, none⟩), .pointer (some ⟨w.heap.size, 0, none⟩)]]
      ((w3.setCell ⟨w1.heap.size, 0, none⟩ (.pointer (some ⟨w3.heap.size, 0, none⟩))).alloc (.cells #[.pointer none, .slice none 0 0, .int .i64 0] 66 (0, 0)))
      fun e w5 => e = .returned (.tuple #[]) ∧ NewReady S p w1.heap.size w3.heap.size st s.data.toList t w w5 := by
  have l7 := lt_of_block hb7
  have lx := lt_of_block hbx
  obtain ⟨w4, hw4⟩ : ∃ x, x = (w3.setCell ⟨w1.heap.size, 0, none⟩ (.pointer (some ⟨w3.heap.size, 0, none⟩))).alloc (.cells #[.pointer none, .slice none 0 0, .int .i64 0] 66 (0, 0)) := ⟨_, rfl⟩
  rw [← hw4]
  have s4 : w4.heap.size = w3.heap.size + 1 := by rw [hw4]; simp [World.setCell]
  have hup4 : Upon (fun _ => False) w1 w4 := by
    rw [hw4]
    exact (hup.setCell (p := ⟨w1.heap.size, 0, none⟩) (.inr (Nat.le_refl _)) _).alloc _
  have b7' : w4.heap[w1.heap.size]? = some (.cells #[.pointer (some ⟨w3.heap.size, 0, none⟩)] 61 (0, 0)) := by
    rw [hw4, Below.heap_alloc _ _ _ (by simp [World.setCell]; omega)]; exact one_setCell hb7
  have bf' : w4.heap[w3.heap.size]? = some (.cells #[.pointer none, .slice none 0 0, .int .i64 0] 66 (0, 0)) := by
    have e := cell_new (w3.setCell ⟨w1.heap.size, 0, none⟩ (.pointer (some ⟨w3.heap.size, 0, none⟩))) (.cells #[.pointer none, .slice none 0 0, .int .i64 0] 66 (0, 0))
    have e2 : (w3.setCell ⟨w1.heap.size, 0, none⟩ (.pointer (some ⟨w3.heap.size, 0, none⟩))).heap.size = w3.heap.size := by simp [World.setCell]
    rw [e2] at e
    rw [hw4]; exact e
  have bx' : w4.heap[w.heap.size]? = some (.cells #[.string s] 9 (0, 0)) := (hup4.block _ lx (fun h => h)).trans hbx
  have hfile : FileAt w4 w3.heap.size none [] 0 := ⟨_, _, .inl rfl, bf', BufAt.nil _⟩
  have hT : ∀ c, (S' c ∨ c = w.heap.size ∨ (w1.heap.size ≤ c ∧ c < w4.heap.size)) → c < w4.heap.size := by
    rintro c (h | h | h)
    · exact Nat.lt_of_lt_of_le (hd.lt c h) hup4.size
    · rw [h]; have := hup4.size; omega
    · exact h.2
  have hd4 := hd.newFile (T := fun c => S' c ∨ c = w.heap.size ∨ (w1.heap.size ≤ c ∧ c < w4.heap.size)) hfile hup.size (fun c hc => hup4.block c (hd.lt c hc) (fun h => h)) (fun c hc => hc.elim .inl fun h => .inr (.inr h)) hT
  have hbn4 : Been S (fun c => S' c ∨ c = w.heap.size ∨ (w1.heap.size ≤ c ∧ c < w4.heap.size)) w w4 := by
    refine ⟨fun c h => .inl (hbn.sub c h), ?_, hbn.upon.trans' hup4 fun _ _ h => h.elim⟩
    rintro c (h | h | h)
    · exact hbn.new c h
    · exact .inr (by rw [h]; exact Nat.le_refl _)
    · exact .inr (Nat.le_trans hbn.upon.size h.1)
  have hfs : blk (g.fs ++ [w3.heap.size]) st.F.length = w3.heap.size := by rw [← hd.files.flen]; exact blk_snoc_eq
  have hnm : nameOk s.data.toList := by unfold isName at hn; simp at hn; simp [nameOk]; omega
  have hlen := hd.fine.nmN.len
  have hch : ChAt w4 (fun c => S' c ∨ c = w.heap.size ∨ (w1.heap.size ≤ c ∧ c < w4.heap.size)) (g.fs ++ [w3.heap.size]) (.put s.data.toList st.F.length)
      (.func (.func 42) #[] #[.pointer (some ⟨w1.heap.size, 0, none⟩), .pointer (some ⟨w.heap.size, 0, none⟩)]) :=
    ⟨w1.heap.size, w.heap.size, s, rfl, ⟨.inr (.inr ⟨Nat.le_refl _, by have := hup.size; omega⟩), by rw [hfs]; exact b7'⟩, ⟨.inr (.inl rfl), bx'⟩, rfl⟩
  refine (change_any _ p _ _ (.put s.data.toList st.F.length) _ w4 hd4 hch ⟨hl, by show st.N.length < 64; omega⟩ ⟨hnm, by simp⟩ hC).mono ?_
  rintro e w5 ⟨rfl, hst⟩
  refine ⟨rfl, (hst.boxes _ _ _ _ b7' (.inl rfl)).trans b7', ?_⟩
  obtain ⟨S5, g5, hd5, hg5, h2, h3⟩ := hst.disk
  have hbn5 : Been (fun c => S' c ∨ c = w.heap.size ∨ (w1.heap.size ≤ c ∧ c < w4.heap.size)) S5 w4 w5 := ⟨h2, h3, hst.upon⟩
  have hi : (chg { st with F := st.F ++ [⟨[], 0⟩] } (.put s.data.toList st.F.length)).F[st.F.length]? = some ⟨[], 0⟩ := by simp [chg]
  have hff := hd5.files.file st.F.length ⟨[], 0⟩ hi
  have hb5 : blk g5.fs st.F.length = w3.heap.size := by rw [hg5]; exact hfs
  rw [hb5] at hff
  refine ⟨_, hff, fun w6 hw => ?_⟩
  have hw' : Wrote (blk g5.fs st.F.length) (g5.rows.getD st.F.length none) t 0 w5 w6 := by rw [hb5]; exact hw
  have hstep := hd5.wrote hi hw' (q := fun f => { f with s := f.s ++ t }) rfl (hd5.fine.modF _ _ fun f hf => by simp; omega)
  have e : ({ chg { st with F := st.F ++ [⟨[], 0⟩] } (.put s.data.toList st.F.length) with F := (chg { st with F := st.F ++ [⟨[], 0⟩] } (.put s.data.toList st.F.length)).F.modify st.F.length fun f => { f with s := f.s ++ t } } : St) = addF st s.data.toList t := by
    unfold addF chg
    rw [hl]
    simp only [modify_snoc]
    rfl
  rw [e] at hstep
  exact hbn4.step (hbn5.step hstep)

set_option maxHeartbeats 3200000 in
set_option maxRecDepth 100000 in
theorem app_full_some (S : Nat → Prop) (p : Nat) (st : St) (s t : ByteArray) (hs : s.size ≤ maxLen) (w : World) (h : IsDisk w S p st) (hb : wrB st = true) (hn : isName s.data.toList = true) (i : Nat) (hl : lookN st.N s.data.toList = some i)
    (hu : used (wrS st) + t.size ≤ 4000000000000000000) (hfull : (wrS st).room < (used (wrS st) : Int) + (t.size : Int)) :
    Calls Try.prog 20 #[.pointer (some ⟨p, 0, none⟩), .string s, .string t] w fun e w' => e = .returned (.int .i64 4) ∧ Step S p (wrS st) w w' := by
  have hu0 : Upon (fun _ => False) w (w.alloc (.cells #[.string s] 9 (0, 0))) := (Upon.refl _ w).alloc _
  have h0 : IsDisk (w.alloc (.cells #[.string s] 9 (0, 0))) S p st := h.upon hu0 fun _ _ h => h
  have HW := Lib.hid (wr_is S p st _ h0 hb)
  have HU := Lib.hid hu0
  have HLT := Lib.hid h.lt
  have HN := Lib.hid (name_is s hs hn)
  have HNM := Lib.hid hn
  have HL := Lib.hid (show lookN (wrS st).N s.data.toList = some i by rw [wrS_N]; exact hl)
  clear h h0 hb hu0 hn hl
  obtain ⟨st1, hst1⟩ : ∃ s, s = wrS st := ⟨_, rfl⟩
  rw [← hst1] at HW HL hu hfull ⊢
  clear hst1
  have hdec := decide_eq_true hfull
  clear hfull
  go_enter Try.func20, Try.ntmps20
  go_wp2_with fail
  refine HW.out.mono ?_
  rintro e w1 ⟨rfl, hs1⟩
  have HS := Lib.hid (Step.first HU.out hs1)
  have hbx := (hs1.upon.block w.heap.size (by simp) (fun hS => by have := HLT.out _ hS; omega)).trans (cell_new w _)
  have cb := cell_of_one hbx
  have lb := lt_of_block hbx
  have nb := Nat.ne_of_lt lb
  obtain ⟨S', g, hd, hbn⟩ := hs1.get
  obtain ⟨k0, -, -, k3, -, -, -⟩ := c6 hd.cell
  have pl := hd.lt p hd.s_p
  have np := Nat.ne_of_lt pl
  have hlk1 := run_look_some (w := w1.drew) (hd.now.kept rfl) hs HL.out
  have hlk2 := run_look_some (w := (w1.alloc (.cells #[.pointer none] 61 (0, 0))).drew) (hd.now.kept (Below.heap_alloc _ _ _ hd.now.lt)) hs HL.out
  have HR := Lib.hid (room_of hd (.pointer (some ⟨blk g.fs i, 0, none⟩)) t.size hu)
  have HBX := Lib.hid hbx
  have HD1 := Lib.hid hd
  have HBN := Lib.hid (show Been S S' w w1 from ⟨hbn.sub, fun b h => (hbn.new b h).elim .inl fun h => .inr (Nat.le_trans HU.out.size h), (HU.out.mono fun _ _ h => h.elim).trans' hbn.upon fun _ _ h => h⟩)
  clear hs1 hd hbn hbx
  go_wp2_with fail
  refine (HN.out _).mono ?_
  rintro e w2 ⟨rfl, rfl⟩
  go_wp2_with fail
  go_region
  all_goals
    have hup2 := (Upon.drew ((Upon.refl (fun _ => False) w1).alloc (.cells #[.pointer (some ⟨blk g.fs i, 0, none⟩)] 61 (0, 0))))
    have HS2 := Lib.hid (HS.out.then hup2)
    have HUP2 := Lib.hid hup2
    clear HS hlk1 hlk2 cb lb nb k0 k3 np hup2
    generalize (w1.alloc (.cells #[.pointer (some ⟨blk g.fs i, 0, none⟩)] 61 (0, 0))).drew = w2 at *
    have r0 := HR.out.cell0
    have r3 := HR.out.cell3
    have r7 := HR.out.cell7
    have rl := HR.out.len
    have rw' := HR.out.wrap
    go_wp2_with fail
    refine wp_region_quiet_below (by kernel_rfl) (by kernel_rfl) ?_
    repeat (go_big_quiet_step (exact Calls.regrown_of (HR.out.used _ _)))
    refine wpQuiet_nil ?_
    intro _ hw'
    obtain ⟨⟨dq, osq⟩, hw''⟩ := hw'
    subst hw''
    have HX := Lib.hid (HS2.out.then (Upon.of_below (below_regrown w2 dq osq) _))
    clear r0 r3 r7 rl rw'
    go_wp2
    go_ret
    exact ⟨rfl, HX.out⟩

set_option maxHeartbeats 3200000 in
set_option maxRecDepth 100000 in
theorem app_full_none (S : Nat → Prop) (p : Nat) (st : St) (s t : ByteArray) (hs : s.size ≤ maxLen) (w : World) (h : IsDisk w S p st) (hb : wrB st = true) (hn : isName s.data.toList = true) (hl : lookN st.N s.data.toList = none)
    (hu : used (wrS st) + t.size ≤ 4000000000000000000) (hfull : (wrS st).room < (used (wrS st) : Int) + (t.size : Int)) :
    Calls Try.prog 20 #[.pointer (some ⟨p, 0, none⟩), .string s, .string t] w fun e w' => e = .returned (.int .i64 4) ∧ Step S p (wrS st) w w' := by
  have hu0 : Upon (fun _ => False) w (w.alloc (.cells #[.string s] 9 (0, 0))) := (Upon.refl _ w).alloc _
  have h0 : IsDisk (w.alloc (.cells #[.string s] 9 (0, 0))) S p st := h.upon hu0 fun _ _ h => h
  have HW := Lib.hid (wr_is S p st _ h0 hb)
  have HU := Lib.hid hu0
  have HLT := Lib.hid h.lt
  have HN := Lib.hid (name_is s hs hn)
  have HNM := Lib.hid hn
  have HL := Lib.hid (show lookN (wrS st).N s.data.toList = none by rw [wrS_N]; exact hl)
  clear h h0 hb hu0 hn hl
  obtain ⟨st1, hst1⟩ : ∃ s, s = wrS st := ⟨_, rfl⟩
  rw [← hst1] at HW HL hu hfull ⊢
  clear hst1
  have hdec := decide_eq_true hfull
  clear hfull
  go_enter Try.func20, Try.ntmps20
  go_wp2_with fail
  refine HW.out.mono ?_
  rintro e w1 ⟨rfl, hs1⟩
  have HS := Lib.hid (Step.first HU.out hs1)
  have hbx := (hs1.upon.block w.heap.size (by simp) (fun hS => by have := HLT.out _ hS; omega)).trans (cell_new w _)
  have cb := cell_of_one hbx
  have lb := lt_of_block hbx
  have nb := Nat.ne_of_lt lb
  obtain ⟨S', g, hd, hbn⟩ := hs1.get
  obtain ⟨k0, -, -, k3, -, -, -⟩ := c6 hd.cell
  have pl := hd.lt p hd.s_p
  have np := Nat.ne_of_lt pl
  have hlk1 := run_look_none (w := w1.drew) (hd.now.kept rfl) hs HL.out
  have hlk2 := run_look_none (w := (w1.alloc (.cells #[.pointer none] 61 (0, 0))).drew) (hd.now.kept (Below.heap_alloc _ _ _ hd.now.lt)) hs HL.out
  have HR := Lib.hid (room_of hd (.pointer none) t.size hu)
  have HBX := Lib.hid hbx
  have HD1 := Lib.hid hd
  have HBN := Lib.hid (show Been S S' w w1 from ⟨hbn.sub, fun b h => (hbn.new b h).elim .inl fun h => .inr (Nat.le_trans HU.out.size h), (HU.out.mono fun _ _ h => h.elim).trans' hbn.upon fun _ _ h => h⟩)
  clear hs1 hd hbn hbx
  go_wp2_with fail
  refine (HN.out _).mono ?_
  rintro e w2 ⟨rfl, rfl⟩
  go_wp2_with fail
  go_region
  all_goals
    have hup2 := (Upon.drew ((Upon.refl (fun _ => False) w1).alloc (.cells #[.pointer none] 61 (0, 0))))
    have HS2 := Lib.hid (HS.out.then hup2)
    have HUP2 := Lib.hid hup2
    clear HS hlk1 hlk2 cb lb nb k0 k3 np hup2
    generalize (w1.alloc (.cells #[.pointer none] 61 (0, 0))).drew = w2 at *
    have r0 := HR.out.cell0
    have r3 := HR.out.cell3
    have r7 := HR.out.cell7
    have rl := HR.out.len
    have rw' := HR.out.wrap
    go_wp2_with fail
    refine wp_region_quiet_below (by kernel_rfl) (by kernel_rfl) ?_
    repeat (go_big_quiet_step (exact Calls.regrown_of (HR.out.used _ _)))
    refine wpQuiet_nil ?_
    intro _ hw'
    obtain ⟨⟨dq, osq⟩, hw''⟩ := hw'
    subst hw''
    have HX := Lib.hid (HS2.out.then (Upon.of_below (below_regrown w2 dq osq) _))
    clear r0 r3 r7 rl rw'
    go_wp2
    go_ret
    exact ⟨rfl, HX.out⟩

set_option maxHeartbeats 3200000 in
set_option maxRecDepth 100000 in
theorem app_max (S : Nat → Prop) (p : Nat) (st : St) (s t : ByteArray) (hs : s.size ≤ maxLen) (w : World) (h : IsDisk w S p st) (hb : wrB st = true) (hn : isName s.data.toList = true) (hl : lookN st.N s.data.toList = none)
    (hu : used (wrS st) + t.size ≤ 4000000000000000000) (hroom : ¬ (wrS st).room < (used (wrS st) : Int) + (t.size : Int)) (h64 : (wrS st).N.length = 64) :
    Calls Try.prog 20 #[.pointer (some ⟨p, 0, none⟩), .string s, .string t] w fun e w' => e = .returned (.int .i64 4) ∧ Step S p (wrS st) w w' := by
  have hu0 : Upon (fun _ => False) w (w.alloc (.cells #[.string s] 9 (0, 0))) := (Upon.refl _ w).alloc _
  have h0 : IsDisk (w.alloc (.cells #[.string s] 9 (0, 0))) S p st := h.upon hu0 fun _ _ h => h
  have HW := Lib.hid (wr_is S p st _ h0 hb)
  have HU := Lib.hid hu0
  have HLT := Lib.hid h.lt
  have HN := Lib.hid (name_is s hs hn)
  have HNM := Lib.hid hn
  have HL := Lib.hid (show lookN (wrS st).N s.data.toList = none by rw [wrS_N]; exact hl)
  clear h h0 hb hu0 hn hl
  obtain ⟨st1, hst1⟩ : ∃ s, s = wrS st := ⟨_, rfl⟩
  rw [← hst1] at HW HL hu hroom h64 ⊢
  clear hst1
  have hdec := decide_eq_false hroom
  have h64' : ((st1.N.length : Int) == 64) = true := by rw [h64]; rfl
  clear hroom h64
  go_enter Try.func20, Try.ntmps20
  go_wp2_with fail
  refine HW.out.mono ?_
  rintro e w1 ⟨rfl, hs1⟩
  have HS := Lib.hid (Step.first HU.out hs1)
  have hbx := (hs1.upon.block w.heap.size (by simp) (fun hS => by have := HLT.out _ hS; omega)).trans (cell_new w _)
  have cb := cell_of_one hbx
  have lb := lt_of_block hbx
  have nb := Nat.ne_of_lt lb
  obtain ⟨S', g, hd, hbn⟩ := hs1.get
  obtain ⟨k0, -, -, k3, -, -, -⟩ := c6 hd.cell
  have pl := hd.lt p hd.s_p
  have np := Nat.ne_of_lt pl
  have hlk1 := run_look_none (w := w1.drew) (hd.now.kept rfl) hs HL.out
  have hlk2 := run_look_none (w := (w1.alloc (.cells #[.pointer none] 61 (0, 0))).drew) (hd.now.kept (Below.heap_alloc _ _ _ hd.now.lt)) hs HL.out
  have HR := Lib.hid (room_of hd (.pointer none) t.size hu)
  have HBX := Lib.hid hbx
  have HD1 := Lib.hid hd
  have HBN := Lib.hid (show Been S S' w w1 from ⟨hbn.sub, fun b h => (hbn.new b h).elim .inl fun h => .inr (Nat.le_trans HU.out.size h), (HU.out.mono fun _ _ h => h.elim).trans' hbn.upon fun _ _ h => h⟩)
  clear hs1 hd hbn hbx
  go_wp2_with fail
  refine (HN.out _).mono ?_
  rintro e w2 ⟨rfl, rfl⟩
  go_wp2_with fail
  go_region
  all_goals
    have hup2 := (Upon.drew ((Upon.refl (fun _ => False) w1).alloc (.cells #[.pointer none] 61 (0, 0))))
    have HS2 := Lib.hid (HS.out.then hup2)
    have HUP2 := Lib.hid hup2
    clear HS hlk1 hlk2 cb lb nb k0 k3 np hup2
    generalize (w1.alloc (.cells #[.pointer none] 61 (0, 0))).drew = w2 at *
    have r0 := HR.out.cell0
    have r3 := HR.out.cell3
    have r7 := HR.out.cell7
    have rl := HR.out.len
    have rw' := HR.out.wrap
    go_wp2_with fail
    refine wp_region_quiet_below (by kernel_rfl) (by kernel_rfl) ?_
    repeat (go_big_quiet_step (exact Calls.regrown_of (HR.out.used _ _)))
    refine wpQuiet_nil ?_
    intro _ hw'
    obtain ⟨⟨dq, osq⟩, hw''⟩ := hw'
    subst hw''
    have HX := Lib.hid (HS2.out.then (Upon.of_below (below_regrown w2 dq osq) _))
    clear r0 r3 r7 rl rw'
    go_wp2
    go_ret
    exact ⟨rfl, HX.out⟩

set_option maxHeartbeats 3200000 in
set_option maxRecDepth 100000 in
theorem app_ok_some (S : Nat → Prop) (p : Nat) (st : St) (s t : ByteArray) (hs : s.size ≤ maxLen) (w : World) (h : IsDisk w S p st) (hb : wrB st = true) (hn : isName s.data.toList = true) (i : Nat) (hl : lookN st.N s.data.toList = some i)
    (hu : used (wrS st) + t.size ≤ 4000000000000000000) (hroom : ¬ (wrS st).room < (used (wrS st) : Int) + (t.size : Int)) (hlen : ∀ f ∈ (wrS st).F, f.s.length + t.size ≤ 140737488355328) :
    Calls Try.prog 20 #[.pointer (some ⟨p, 0, none⟩), .string s, .string t] w fun e w' => e = .returned (.int .i64 0) ∧ Step S p { wrS st with F := (wrS st).F.modify i fun f => { f with s := f.s ++ t.data.toList } } w w' := by
  have hu0 : Upon (fun _ => False) w (w.alloc (.cells #[.string s] 9 (0, 0))) := (Upon.refl _ w).alloc _
  have h0 : IsDisk (w.alloc (.cells #[.string s] 9 (0, 0))) S p st := h.upon hu0 fun _ _ h => h
  have HW := Lib.hid (wr_is S p st _ h0 hb)
  have HU := Lib.hid hu0
  have HLT := Lib.hid h.lt
  have HN := Lib.hid (name_is s hs hn)
  have HNM := Lib.hid hn
  have HL := Lib.hid (show lookN (wrS st).N s.data.toList = some i by rw [wrS_N]; exact hl)
  clear h h0 hb hu0 hn hl
  obtain ⟨st1, hst1⟩ : ∃ s, s = wrS st := ⟨_, rfl⟩
  rw [← hst1] at HW HL hu hroom hlen ⊢
  clear hst1
  have hdec := decide_eq_false hroom
  have HLEN := Lib.hid hlen
  clear hroom hlen
  go_enter Try.func20, Try.ntmps20
  go_wp2_with fail
  refine HW.out.mono ?_
  rintro e w1 ⟨rfl, hs1⟩
  have HS := Lib.hid (Step.first HU.out hs1)
  have hbx := (hs1.upon.block w.heap.size (by simp) (fun hS => by have := HLT.out _ hS; omega)).trans (cell_new w _)
  have cb := cell_of_one hbx
  have lb := lt_of_block hbx
  have nb := Nat.ne_of_lt lb
  obtain ⟨S', g, hd, hbn⟩ := hs1.get
  obtain ⟨k0, -, -, k3, -, -, -⟩ := c6 hd.cell
  have pl := hd.lt p hd.s_p
  have np := Nat.ne_of_lt pl
  have hlk1 := run_look_some (w := w1.drew) (hd.now.kept rfl) hs HL.out
  have hlk2 := run_look_some (w := (w1.alloc (.cells #[.pointer none] 61 (0, 0))).drew) (hd.now.kept (Below.heap_alloc _ _ _ hd.now.lt)) hs HL.out
  have HR := Lib.hid (room_of hd (.pointer (some ⟨blk g.fs i, 0, none⟩)) t.size hu)
  have HBX := Lib.hid hbx
  have HD1 := Lib.hid hd
  have HBN := Lib.hid (show Been S S' w w1 from ⟨hbn.sub, fun b h => (hbn.new b h).elim .inl fun h => .inr (Nat.le_trans HU.out.size h), (HU.out.mono fun _ _ h => h.elim).trans' hbn.upon fun _ _ h => h⟩)
  clear hs1 hd hbn hbx
  go_wp2_with fail
  refine (HN.out _).mono ?_
  rintro e w2 ⟨rfl, rfl⟩
  go_wp2_with fail
  go_region
  all_goals
    have hup2 := (Upon.drew ((Upon.refl (fun _ => False) w1).alloc (.cells #[.pointer (some ⟨blk g.fs i, 0, none⟩)] 61 (0, 0))))
    have HS2 := Lib.hid (HS.out.then hup2)
    have HUP2 := Lib.hid hup2
    clear HS hlk1 hlk2 cb lb nb k0 k3 np hup2
    generalize (w1.alloc (.cells #[.pointer (some ⟨blk g.fs i, 0, none⟩)] 61 (0, 0))).drew = w2 at *
    have r0 := HR.out.cell0
    have r3 := HR.out.cell3
    have r7 := HR.out.cell7
    have rl := HR.out.len
    have rw' := HR.out.wrap
    go_wp2_with fail
    refine wp_region_quiet_below (by kernel_rfl) (by kernel_rfl) ?_
    repeat (go_big_quiet_step (exact Calls.regrown_of (HR.out.used _ _)))
    refine wpQuiet_nil ?_
    intro _ hw'
    obtain ⟨⟨dq, osq⟩, hw''⟩ := hw'
    subst hw''
    have hbel := below_regrown w2 dq osq
    have hbx3 : (grow (redrawn w2 dq) osq).heap[w1.heap.size]? = some (.cells #[.pointer (some ⟨blk g.fs i, 0, none⟩)] 61 (0, 0)) := (hbel.block _ (lt_of_block HR.out.box)).trans HR.out.box
    have hd3 : DiskG (grow (redrawn w2 dq) osq) S' p st1 g := HR.out.disk.kept (fun b hb => hbel.block b (HR.out.disk.lt b hb)) hbel.size
    have hbn3 : Been S S' w (grow (redrawn w2 dq) osq) := ⟨HBN.out.sub, HBN.out.new, (HBN.out.upon.trans' HUP2.out fun _ _ h => h.elim).trans' (Upon.of_below hbel (fun _ => False)) fun _ _ h => h.elim⟩
    clear r0 r3 r7 rl rw' hbel HS2 HR
    generalize grow (redrawn w2 dq) osq = w3 at *
    have c7 := cell_of_one hbx3
    obtain ⟨f, hf, hfile, -⟩ := hd3.file HL.out
    have HWr := Lib.hid (write_any _ _ _ _ t w3 hfile (HLEN.out f (List.mem_of_getElem? hf)))
    have HFin := Lib.hid (fun w4 (hw : Wrote (blk g.fs i) (g.rows.getD i none) (f.s ++ t.data.toList) f.lasts w3 w4) => hbn3.step (hd3.wrote hf hw (q := fun f => { f with s := f.s ++ t.data.toList }) rfl (hd3.fine.modF i _ fun f hf => by simp; omega)))
    clear hbx3 hd3 hbn3 hf hfile
    go_wp2_with fail
    refine HWr.out.mono ?_
    rintro e w4 ⟨rfl, hw⟩
    have HX := Lib.hid (HFin.out w4 hw)
    clear hw
    go_wp2
    go_ret
    exact ⟨rfl, HX.out⟩

set_option maxHeartbeats 3200000 in
set_option maxRecDepth 100000 in
theorem app_new (S : Nat → Prop) (p : Nat) (st : St) (s t : ByteArray) (hs : s.size ≤ maxLen) (w : World) (h : IsDisk w S p st) (hb : wrB st = true) (hn : isName s.data.toList = true) (hl : lookN st.N s.data.toList = none)
    (hu : used (wrS st) + t.size ≤ 4000000000000000000) (hroom : ¬ (wrS st).room < (used (wrS st) : Int) + (t.size : Int)) (h64 : (wrS st).N.length ≠ 64) (hC : (wrS st).C.length ≤ 1000000000) (hlt2 : t.size ≤ 140737488355328) :
    Calls Try.prog 20 #[.pointer (some ⟨p, 0, none⟩), .string s, .string t] w fun e w' => e = .returned (.int .i64 0) ∧ Step S p (addF (wrS st) s.data.toList t.data.toList) w w' := by
  have hu0 : Upon (fun _ => False) w (w.alloc (.cells #[.string s] 9 (0, 0))) := (Upon.refl _ w).alloc _
  have h0 : IsDisk (w.alloc (.cells #[.string s] 9 (0, 0))) S p st := h.upon hu0 fun _ _ h => h
  have HW := Lib.hid (wr_is S p st _ h0 hb)
  have HU := Lib.hid hu0
  have HLT := Lib.hid h.lt
  have HN := Lib.hid (name_is s hs hn)
  have HNM := Lib.hid hn
  have HL := Lib.hid (show lookN (wrS st).N s.data.toList = none by rw [wrS_N]; exact hl)
  clear h h0 hb hu0 hn hl
  obtain ⟨st1, hst1⟩ : ∃ s, s = wrS st := ⟨_, rfl⟩
  rw [← hst1] at HW HL hu hroom h64 hC ⊢
  clear hst1
  have hdec := decide_eq_false hroom
  have h64' : ((st1.N.length : Int) == 64) = false := by simp; omega
  have HLL := Lib.hid h64
  clear hroom h64
  go_enter Try.func20, Try.ntmps20
  go_wp2_with fail
  refine HW.out.mono ?_
  rintro e w1 ⟨rfl, hs1⟩
  have HS := Lib.hid (Step.first HU.out hs1)
  have hbx := (hs1.upon.block w.heap.size (by simp) (fun hS => by have := HLT.out _ hS; omega)).trans (cell_new w _)
  have cb := cell_of_one hbx
  have lb := lt_of_block hbx
  have nb := Nat.ne_of_lt lb
  obtain ⟨S', g, hd, hbn⟩ := hs1.get
  obtain ⟨k0, -, -, k3, -, -, -⟩ := c6 hd.cell
  have pl := hd.lt p hd.s_p
  have np := Nat.ne_of_lt pl
  have hlk1 := run_look_none (w := w1.drew) (hd.now.kept rfl) hs HL.out
  have hlk2 := run_look_none (w := (w1.alloc (.cells #[.pointer none] 61 (0, 0))).drew) (hd.now.kept (Below.heap_alloc _ _ _ hd.now.lt)) hs HL.out
  have HR := Lib.hid (room_of hd (.pointer none) t.size hu)
  have HBX := Lib.hid hbx
  have HD1 := Lib.hid hd
  have HBN := Lib.hid (show Been S S' w w1 from ⟨hbn.sub, fun b h => (hbn.new b h).elim .inl fun h => .inr (Nat.le_trans HU.out.size h), (HU.out.mono fun _ _ h => h.elim).trans' hbn.upon fun _ _ h => h⟩)
  clear hs1 hd hbn hbx
  go_wp2_with fail
  refine (HN.out _).mono ?_
  rintro e w2 ⟨rfl, rfl⟩
  go_wp2_with fail
  go_region
  all_goals
    have hup2 := (Upon.drew ((Upon.refl (fun _ => False) w1).alloc (.cells #[.pointer none] 61 (0, 0))))
    have HS2 := Lib.hid (HS.out.then hup2)
    have HUP2 := Lib.hid hup2
    clear HS hlk1 hlk2 cb lb nb k0 k3 np hup2
    generalize (w1.alloc (.cells #[.pointer none] 61 (0, 0))).drew = w2 at *
    have r0 := HR.out.cell0
    have r3 := HR.out.cell3
    have r7 := HR.out.cell7
    have rl := HR.out.len
    have rw' := HR.out.wrap
    go_wp2_with fail
    refine wp_region_quiet_below (by kernel_rfl) (by kernel_rfl) ?_
    repeat (go_big_quiet_step (exact Calls.regrown_of (HR.out.used _ _)))
    refine wpQuiet_nil ?_
    intro _ hw'
    obtain ⟨⟨dq, osq⟩, hw''⟩ := hw'
    subst hw''
    have hbel := below_regrown w2 dq osq
    have hbx3 : (grow (redrawn w2 dq) osq).heap[w1.heap.size]? = some (.cells #[.pointer none] 61 (0, 0)) := (hbel.block _ (lt_of_block HR.out.box)).trans HR.out.box
    have hup3 : Upon (fun _ => False) w1 (grow (redrawn w2 dq) osq) := HUP2.out.trans (Upon.of_below hbel _)
    clear r0 r3 r7 rl rw' hbel HS2 HR
    generalize grow (redrawn w2 dq) osq = w3 at *
    have c7 := cell_of_one hbx3
    have f7 := free_of_one hbx3
    have l7 := lt_of_block hbx3
    have n7 := Nat.ne_of_lt l7
    have HNF := Lib.hid (new_file t.data.toList HD1.out HBN.out HBX.out hup3 hbx3 HL.out HNM.out HLL.out hC)
    clear hbx3 hup3
    go_wp2_with fail
    refine HNF.out.mono ?_
    rintro e w5 ⟨rfl, hnr⟩
    obtain ⟨hb7, r, hfile, hfin⟩ := hnr
    have c75 := cell_of_one hb7
    have HWr := Lib.hid (write_any _ _ _ _ t w5 hfile (by simpa using hlt2))
    have HFin := Lib.hid hfin
    clear hb7 hfile hfin
    go_wp2_with fail
    refine HWr.out.mono ?_
    rintro e w6 ⟨rfl, hw⟩
    rw [List.nil_append] at hw
    have HX := Lib.hid (HFin.out w6 hw)
    clear hw
    go_wp2
    go_ret
    exact ⟨rfl, HX.out⟩

theorem addF_some {st : St} {k t : Str} {i : Nat} (hl : lookN st.N k = some i) : addF st k t = { st with F := st.F.modify i fun f => { f with s := f.s ++ t } } := by unfold addF; rw [hl]

/-- (*Disk).Append, whatever is asked of it, as long as there is not more on the disk than the model's memory bears. -/
theorem app_any (S : Nat → Prop) (p : Nat) (st : St) (s t : ByteArray) (hs : s.size ≤ maxLen) (hu : used st + t.size ≤ 4000000000000000000) (hlen : ∀ f ∈ st.F, f.s.length + t.size ≤ 140737488355328) (ht : t.size ≤ 140737488355328) (hC : st.C.length ≤ 1000000000)
    (w : World) (h : IsDisk w S p st) :
    Calls Try.prog 20 #[.pointer (some ⟨p, 0, none⟩), .string s, .string t] w fun e w' => e = .returned (.int .i64 (appE st s.data.toList t.data.toList)) ∧ Step S p (appS st s.data.toList t.data.toList) w w' := by
  have hu' : used (wrS st) + t.size ≤ 4000000000000000000 := by have e : used (wrS st) = used st := by simp [used, wrS_F, wrS_N]
                                                                rw [e]; exact hu
  have htl : t.data.toList.length = t.size := by simp
  cases hb : wrB st with
  | false =>
    have e1 : appE st s.data.toList t.data.toList = 11 := by simp [appE, hb]
    have e2 : appS st s.data.toList t.data.toList = wrS st := by simp [appS, hb]
    rw [e1, e2]; exact app_dead S p st s t w h hb
  | true =>
    cases hn : isName s.data.toList with
    | false =>
      have e1 : appE st s.data.toList t.data.toList = 3 := by simp [appE, hb, hn]
      have e2 : appS st s.data.toList t.data.toList = wrS st := by simp [appS, hn]
      rw [e1, e2]; exact app_noname S p st s t hs w h hb hn
    | true =>
      by_cases hfull : (wrS st).room < (used (wrS st) : Int) + (t.size : Int)
      · have hf : full (wrS st) s.data.toList t.data.toList = true := by
          unfold full; rw [htl]; simp only [Bool.or_eq_true]; exact .inl (decide_eq_true (by omega))
        have e1 : appE st s.data.toList t.data.toList = 4 := by simp [appE, hb, hn, hf]
        have e2 : appS st s.data.toList t.data.toList = wrS st := by simp [appS, hf]
        rw [e1, e2]
        cases hl : lookN st.N s.data.toList with
        | none => exact app_full_none S p st s t hs w h hb hn hl hu' hfull
        | some i => exact app_full_some S p st s t hs w h hb hn i hl hu' hfull
      · have hd : decide ((wrS st).room < ((used (wrS st) + t.data.toList.length : Nat) : Int)) = false := by rw [htl]; exact decide_eq_false (by omega)
        cases hl : lookN st.N s.data.toList with
        | some i =>
          have hl' : lookN (wrS st).N s.data.toList = some i := by rw [wrS_N]; exact hl
          have hf : full (wrS st) s.data.toList t.data.toList = false := by unfold full; rw [hd, hl']; rfl
          have e1 : appE st s.data.toList t.data.toList = 0 := by simp [appE, hb, hn, hf]
          have e2 : appS st s.data.toList t.data.toList = addF (wrS st) s.data.toList t.data.toList := by simp [appS, hb, hn, hf]
          rw [e1, e2, addF_some hl']
          exact app_ok_some S p st s t hs w h hb hn i hl hu' hfull (by rw [wrS_F]; exact hlen)
        | none =>
          have hl' : lookN (wrS st).N s.data.toList = none := by rw [wrS_N]; exact hl
          by_cases h64 : (wrS st).N.length = 64
          · have hf : full (wrS st) s.data.toList t.data.toList = true := by unfold full; rw [hl']; simp [h64]
            have e1 : appE st s.data.toList t.data.toList = 4 := by simp [appE, hb, hn, hf]
            have e2 : appS st s.data.toList t.data.toList = wrS st := by simp [appS, hf]
            rw [e1, e2]
            exact app_max S p st s t hs w h hb hn hl hu' hfull h64
          · have hf : full (wrS st) s.data.toList t.data.toList = false := by unfold full; rw [hd]; simp [h64]
            have e1 : appE st s.data.toList t.data.toList = 0 := by simp [appE, hb, hn, hf]
            have e2 : appS st s.data.toList t.data.toList = addF (wrS st) s.data.toList t.data.toList := by simp [appS, hb, hn, hf]
            rw [e1, e2]
            exact app_new S p st s t hs w h hb hn hl hu' hfull h64 (by rw [wrS_C]; exact hC) ht
end Dsk
end Go.Proofs.Ytfpphahdbhelcaa
