/- Parts, put together: WalTake, WalDel, WalOut, WalLog, WalTidy, WalGoes, WalOpen. -/
import Derived.Test.YtlgjbdfnhaoloaaGreatDoorPWal1
import Derived.Lib.SliceRun
import Derived.LaidEqlPtr
import Derived.Lib.Builder

/- Segments that go are taken out of the list, one by one (layer 5): takeOut, and the library's DeleteFunc beneath it. -/
section
set_option linter.unusedSimpArgs false
set_option linter.unusedVariables false
namespace Go.Proofs.YtlgjbdfnhaoloaaGreatDoor
open Go.RowKit Go.Sort
namespace Wal
open Dig Frm Dsk

/-- A function value that tells of the j-th segment whether it goes: G j holds ahead of that. -/
structure GoesAt (F : FuncId) (caps : Array Value) (goes : Nat → Bool) (l : List GS) (G : Nat → World → Prop) (U : Nat → Prop) : Prop where
  enters : ∀ args w, (callFunc F args).run Tryz.prog w = .ok (.enter F args) w
  call : ∀ j x w T, l[j]? = some x → SegsAt w T l → G j w → Calls Tryz.prog F (#[ptrV x] ++ caps) w fun e w' => e = .returned (.bool (goes j)) ∧ G (j + 1) w' ∧ Upon U w w'
  keep : ∀ j w w', G j w → (∀ b, U b → w'.heap[b]? = w.heap[b]?) → G j w'

/-- The boxes that the closure has captured, the log's block, the segments. -/
structure Boxes (l : List GS) (gv : Value) (lc : Array Value) (pd pl eb gb lb : Nat) (e : Int) (T : Nat → Prop) (w : World) : Prop where
  e : w.heap[eb]? = some (.cells #[.int .i64 e] 29 (0, 0))
  g : w.heap[gb]? = some (.cells #[gv] 59 (0, 0))
  b : w.heap[lb]? = some (.cells #[.pointer (some ⟨pl, 0, none⟩)] 28 (0, 0))
  log : w.heap[pl]? = some (.cells lc 56 (0, 0))
  disk : lc[0]? = some (.pointer (some ⟨pd, 0, none⟩))
  segs : SegsAt w T l
  te : T eb
  tg : T gb
  tl : T lb
  tp : T pl

theorem Boxes.kept {l : List GS} {gv : Value} {lc : Array Value} {pd pl eb gb lb : Nat} {e : Int} {T : Nat → Prop} {w w' : World} (h : Boxes l gv lc pd pl eb gb lb e T w) (hk : ∀ b, T b → w'.heap[b]? = w.heap[b]?) : Boxes l gv lc pd pl eb gb lb e T w' :=
  { h with e := (hk _ h.te).trans h.e, g := (hk _ h.tg).trans h.g, b := (hk _ h.tl).trans h.b, log := (hk _ h.tp).trans h.log, segs := h.segs.kept hk }
theorem Boxes.mono {l : List GS} {gv : Value} {lc : Array Value} {pd pl eb gb lb : Nat} {e : Int} {T T' : Nat → Prop} {w : World} (h : Boxes l gv lc pd pl eb gb lb e T w) (hT : ∀ b, T b → T' b) : Boxes l gv lc pd pl eb gb lb e T' w :=
  { h with segs := h.segs.mono hT, te := hT _ h.te, tg := hT _ h.tg, tl := hT _ h.tl, tp := hT _ h.tp }

set_option maxHeartbeats 800000 in
set_option maxRecDepth 100000 in
theorem take1_err (x : GS) (l : List GS) (gv : Value) (lc : Array Value) (pd pl eb gb lb : Nat) (e : Int) (he : e ≠ 0) (T : Nat → Prop) (w : World) (hb : Boxes l gv lc pd pl eb gb lb e T w) :
    Calls Tryz.prog 73 #[ptrV x, .pointer (some ⟨eb, 0, none⟩), .pointer (some ⟨gb, 0, none⟩), .pointer (some ⟨lb, 0, none⟩)] w fun e w' => e = .returned (.bool false) ∧ w = w' := by
  have c1 := cell_of_one hb.e
  have hn : (e != 0) = true := by simp; exact he
  clear hb
  go_enter Tryz.func73, Tryz.ntmps73
  go_wp2
  go_ret
  exact ⟨rfl, rfl⟩

/-- All that is carried while segments are taken out; j of them have been asked. -/
structure TkP where
  B : Nat
  W : World
  S : Nat → Prop
  F : FuncId
  caps : Array Value
  goes : Nat → Bool
  l : List GS
  G : Nat → World → Prop
  U : Nat → Prop
  lc : Array Value
  pd : Nat
  pl : Nat
  eb : Nat
  gb : Nat
  lb : Nat
  R : Nat → Prop
structure TkAt (p : TkP) (j : Nat) (st : St) (e : Int) (T : Nat → Prop) (w : World) : Prop where
  fr : Fr p.B p.W p.S p.pd st T w
  bx : Boxes p.l (.func (.func p.F) #[] p.caps) p.lc p.pd p.pl p.eb p.gb p.lb e T w
  g : e = 0 → p.G j w
  ut : ∀ b, p.U b → T b
  rt : ∀ b, p.R b → T b
  ur : ∀ b, p.R b → ¬ p.U b ∧ b ≠ p.eb ∧ b ≠ p.gb ∧ b ≠ p.lb ∧ b ≠ p.pl ∧ ∀ x ∈ p.l, ¬ own x b
  ue : ¬ p.U p.eb ∧ ¬ p.U p.gb ∧ ¬ p.U p.lb ∧ ¬ p.U p.pl
  us : ∀ x ∈ p.l, ∀ b, own x b → ¬ p.U b
  ne : p.eb ≠ p.gb ∧ p.eb ≠ p.lb ∧ p.eb ≠ p.pl
  goes : GoesAt p.F p.caps p.goes p.l p.G p.U

theorem box_ne {w : World} {l : List GS} {gv : Value} {lc : Array Value} {pd pl eb gb lb : Nat} {e : Int} {T : Nat → Prop} (h : Boxes l gv lc pd pl eb gb lb e T w) : ∀ x ∈ l, ¬ own x eb := by
  intro x hx ho
  obtain ⟨c, T, h1, h2⟩ := own_type (h.segs.seg x hx) ho
  rw [h.e] at h1
  simp at h1
  rcases h2 with rfl | rfl <;> exact absurd h1.2 (by decide)

/-- Behind what the function value does. -/
theorem TkAt.asked {p : TkP} {w w1 : World} {j : Nat} {st : St} {e : Int} {T : Nat → Prop}
    (h : TkAt p j st e T w) (hg : p.G (j + 1) w1) (hu : Upon p.U w w1) :
    TkAt p (j + 1) st e (more T w w1) w1 ∧ ∀ b, T b → ¬ p.U b → w1.heap[b]? = w.heap[b]? := by
  have hk : ∀ b, T b → ¬ p.U b → w1.heap[b]? = w.heap[b]? := fun b hb hn => hu.block b (h.fr.lt b hb) hn
  refine ⟨{ h with fr := h.fr.own (hu.mono fun i hi hs => h.ut i hs), g := fun _ => hg, ut := fun b hb => .inl (h.ut b hb), rt := fun b hb => .inl (h.rt b hb), bx := ?_ }, hk⟩
  exact { e := (hk _ h.bx.te h.ue.1).trans h.bx.e, g := (hk _ h.bx.tg h.ue.2.1).trans h.bx.g, b := (hk _ h.bx.tl h.ue.2.2.1).trans h.bx.b, log := (hk _ h.bx.tp h.ue.2.2.2).trans h.bx.log, disk := h.bx.disk,
          segs := ⟨fun x hx => (h.bx.segs.seg x hx).kept fun b hb => hk b (h.bx.segs.inT x hx b hb) (h.us x hx b hb), fun x hx b hb => .inl (h.bx.segs.inT x hx b hb), h.bx.segs.apart, h.bx.segs.fine⟩, te := .inl h.bx.te, tg := .inl h.bx.tg, tl := .inl h.bx.tl, tp := .inl h.bx.tp }
/-- Behind a step of the disk, and the store of its error. -/
theorem TkAt.stored {p : TkP} {w w2 w3 : World} {j : Nat} {st st' : St} {e e' : Int} {T : Nat → Prop}
    (h : TkAt p j st e T w) (h0 : e = 0) (hb : Below w.heap.size w w2) (f3 : Fr p.B p.W p.S p.pd st' (more T w w2) w3) (k3 : ∀ b, more T w w2 b → w3.heap[b]? = w2.heap[b]?) :
    TkAt p j st' e' (more (more T w w2) w3 (w3.setCell ⟨p.eb, 0, none⟩ (.int .i64 e'))) (w3.setCell ⟨p.eb, 0, none⟩ (.int .i64 e')) ∧
      (∀ b, T b → b ≠ p.eb → (w3.setCell ⟨p.eb, 0, none⟩ (.int .i64 e')).heap[b]? = w.heap[b]?) ∧ w3.cell? ⟨p.eb, 0, none⟩ = some (.int .i64 e) ∧ w3.frozen? ⟨p.eb, 0, none⟩ = false := by
  have hk : ∀ b, T b → w3.heap[b]? = w.heap[b]? := fun b hb' => (k3 b (.inl hb')).trans (hb.block b (h.fr.lt b hb'))
  have hk2 : ∀ b, T b → b ≠ p.eb → (w3.setCell ⟨p.eb, 0, none⟩ (.int .i64 e')).heap[b]? = w.heap[b]? := fun b hb' hne => by rw [Below.heap_setCell _ _ _ _ hne]; exact hk b hb'
  have he3 : w3.heap[p.eb]? = some (.cells #[.int .i64 e] 29 (0, 0)) := (hk p.eb h.bx.te).trans h.bx.e
  have hT : ∀ b, T b → more (more T w w2) w3 (w3.setCell ⟨p.eb, 0, none⟩ (.int .i64 e')) b := fun b hb' => .inl (.inl hb')
  have hu : Upon (more T w w2) w3 (w3.setCell ⟨p.eb, 0, none⟩ (.int .i64 e')) := (Upon.refl _ w3).setCell (p := ⟨p.eb, 0, none⟩) (.inl (.inl h.bx.te)) _
  refine ⟨{ h with fr := f3.own hu, g := fun _ => h.goes.keep j w _ (h.g h0) fun b hb' => hk2 b (h.ut b hb') (fun e => h.ue.1 (e ▸ hb')), ut := fun b hb' => hT b (h.ut b hb'), rt := fun b hb' => hT b (h.rt b hb'), bx := ?_ }, hk2, cell_of_one he3, free_of_one he3⟩
  exact { e := one_setCell he3, g := (hk2 _ h.bx.tg h.ne.1.symm).trans h.bx.g, b := (hk2 _ h.bx.tl h.ne.2.1.symm).trans h.bx.b, log := (hk2 _ h.bx.tp h.ne.2.2.symm).trans h.bx.log, disk := h.bx.disk,
          segs := ⟨fun x hx => (h.bx.segs.seg x hx).kept fun b hb' => hk2 b (h.bx.segs.inT x hx b hb') (fun e => box_ne h.bx x hx (e ▸ hb')), fun x hx b hb' => hT b (h.bx.segs.inT x hx b hb'), h.bx.segs.apart, h.bx.segs.fine⟩,
          te := hT _ h.bx.te, tg := hT _ h.bx.tg, tl := hT _ h.bx.tl, tp := hT _ h.bx.tp }

/-- One segment more is asked. -/
def stays (goes : Nat → Bool) (j : Nat) (e : Int) : Bool := decide (e ≠ 0) || !goes j
def tkSt (goes : Nat → Bool) (j : Nat) (nm : Str) (st : St) (e : Int) : St := if stays goes j e then st else remS st nm
def tkE (goes : Nat → Bool) (j : Nat) (nm : Str) (st : St) (e : Int) : Int := if stays goes j e then e else remE st nm
def tkOut (goes : Nat → Bool) (j : Nat) (nm : Str) (st : St) (e : Int) : Bool := !stays goes j e && decide (remE st nm = 0)
theorem takeL_cons {α : Type} (nm : α → Str) (goes : Nat → Bool) (x : α) (r : List α) (j : Nat) (st : St) (e : Int) :
    takeL nm goes j (x :: r) st e = ((if tkOut goes j (nm x) st e then [] else [x]) ++ (takeL nm goes (j + 1) r (tkSt goes j (nm x) st e) (tkE goes j (nm x) st e)).1, (takeL nm goes (j + 1) r (tkSt goes j (nm x) st e) (tkE goes j (nm x) st e)).2) := by
  conv => lhs; unfold takeL
  unfold tkOut tkSt tkE stays
  by_cases h : e ≠ 0 ∨ goes j = false
  · rw [if_pos h]
    have : (decide (e ≠ 0) || !goes j) = true := by simpa using h
    simp only [this, Bool.not_true, Bool.false_and, Bool.false_eq_true, if_false, if_true]
    rfl
  · rw [if_neg h]
    have : (decide (e ≠ 0) || !goes j) = false := by simpa using h
    simp only [this, Bool.not_false, Bool.true_and, Bool.false_eq_true, if_false, decide_eq_true_eq]

/-- What a call of takeOut's own function value leaves. -/
def Took (p : TkP) (j : Nat) (nm : Str) (st : St) (e : Int) (T : Nat → Prop) (w : World) (r : Ending) (w' : World) : Prop :=
  r = .returned (.bool (tkOut p.goes j nm st e)) ∧ ∃ T', (∀ b, T b → T' b) ∧ TkAt p (j + 1) (tkSt p.goes j nm st e) (tkE p.goes j nm st e) T' w' ∧ ∀ b, p.R b → w'.heap[b]? = w.heap[b]?

set_option maxHeartbeats 1600000 in
set_option maxRecDepth 100000 in
theorem take1_any (p : TkP) (j : Nat) (st : St) (e : Int) (T : Nat → Prop) (w : World)
    (h : TkAt p j st e T w) (x : GS) (hx : p.l[j]? = some x) (hC : st.C.length ≤ 1000000000) :
    Calls Tryz.prog 73 #[ptrV x, .pointer (some ⟨p.eb, 0, none⟩), .pointer (some ⟨p.gb, 0, none⟩), .pointer (some ⟨p.lb, 0, none⟩)] w (Took p j x.s.name st e T w) := by
  by_cases he : e = 0
  · subst he
    have hm := List.mem_of_getElem? hx
    have hcl := h.goes.call j x w _ hx h.bx.segs (h.g rfl)
    have hent := h.goes.enters
    have c1 := cell_of_one h.bx.e
    have c2 := cell_of_one h.bx.g
    cases hj : p.goes j with
    | false =>
      have s0 : stays p.goes j 0 = true := by simp [stays, hj]
      have o0 : tkOut p.goes j x.s.name st 0 = false := by simp [tkOut, s0]
      have o1 : tkSt p.goes j x.s.name st 0 = st := by simp [tkSt, s0]
      have o2 : tkE p.goes j x.s.name st 0 = 0 := by simp [tkE, s0]
      unfold Took
      rw [o0, o1, o2]
      rw [hj] at hcl
      have HC := Lib.hid hcl
      have H := Lib.hid h
      clear h hcl hx hm s0 o0 o1 o2 hj
      go_enter Tryz.func73, Tryz.ntmps73
      go_wp2_with fail
      refine HC.out.mono ?_
      rintro e w1 ⟨rfl, hg1, hu1⟩
      obtain ⟨H1, H2⟩ := H.out.asked hg1 hu1
      replace H1 := Lib.hid H1
      replace H2 := Lib.hid (fun b (hb : p.R b) => H2 b (H.out.rt b hb) (H.out.ur b hb).1)
      clear hg1 hu1 HC H
      go_wp2
      go_ret
      exact ⟨rfl, _, fun b hb => .inl hb, H1.out, H2.out⟩
    | true =>
      have s0 : stays p.goes j 0 = false := by simp [stays, hj]
      have o0 : tkOut p.goes j x.s.name st 0 = decide (remE st x.s.name = 0) := by simp [tkOut, s0]
      have o1 : tkSt p.goes j x.s.name st 0 = remS st x.s.name := by simp [tkSt, s0]
      have o2 : tkE p.goes j x.s.name st 0 = remE st x.s.name := by simp [tkE, s0]
      unfold Took
      rw [o0, o1, o2]
      rw [hj] at hcl
      have HC := Lib.hid hcl
      have H := Lib.hid h
      have hnb : (nameB x.s.first).data.toList = x.s.name := nameB_list _
      have htop := (h.bx.segs.fine x hm).top
      have hns : (nameB x.s.first).size ≤ maxLen := by
        have e : (nameB x.s.first).size = (nameL x.s.first).length := rfl
        rw [e, name_length _ htop]; unfold maxLen; omega
      have HM := Lib.hid hm
      have HRM := Lib.hid (fun (T2 : Nat → Prop) (w2 : World) (f2 : Fr p.B p.W p.S p.pd st T2 w2) => f2.step (P := fun e => e = .returned (.int .i64 (remE st x.s.name))) fun Sd hd => by
        have := rem_any Sd p.pd st (nameB x.s.first) hns hC w2 hd
        rw [hnb] at this
        exact this)
      clear h hcl hx hm s0 o0 o1 o2 hj hnb htop hns
      generalize x.s.name = nm at *
      go_enter Tryz.func73, Tryz.ntmps73
      go_wp2_with fail
      refine HC.out.mono ?_
      rintro e w1 ⟨rfl, hg1, hu1⟩
      obtain ⟨H1, H2⟩ := H.out.asked hg1 hu1
      have d1 := cell_of_one H1.bx.b
      have d2 : w1.cell? ⟨p.pl, 0, none⟩ = some (.pointer (some ⟨p.pd, 0, none⟩)) := by rw [Lib.cell_of_heap H1.bx.log]; exact H1.bx.disk
      have HN := Lib.hid (name_any x p.B w1.drew ((H1.bx.segs.seg x HM.out).kept fun _ _ => rfl) (H1.bx.segs.fine x HM.out) (H1.fr.env.kept (w' := w1.drew) (fun _ _ => rfl) (Nat.le_refl _)))
      replace H1 := Lib.hid H1
      replace H2 := Lib.hid (fun b (hb : p.R b) => H2 b (H.out.rt b hb) (H.out.ur b hb).1)
      have HW1 := Lib.hid (show ∀ w2, Below w1.drew.heap.size w1.drew w2 → (Below w1.heap.size w1 w2 ∧ w2.cell? ⟨p.lb, 0, none⟩ = some (.pointer (some ⟨p.pl, 0, none⟩)) ∧ w2.cell? ⟨p.pl, 0, none⟩ = some (.pointer (some ⟨p.pd, 0, none⟩))) from fun w2 hb => by
        have hb' : Below w1.heap.size w1 w2 := chain2 (w1 := w1.drew) ⟨rfl, rfl, rfl, Nat.le_refl _, fun _ _ => rfl⟩ hb
        exact ⟨hb', (hb'.cell (p := ⟨p.lb, 0, none⟩) (lt_of_block H1.out.bx.b)).trans d1, (hb'.cell (p := ⟨p.pl, 0, none⟩) (lt_of_block H1.out.bx.log)).trans d2⟩)
      clear hg1 hu1 HC c1 c2
      go_wp2_with fail
      go_region_with (first
        | (go_at_call 33; refine HN.out.mono ?_; rintro e w2 ⟨rfl, hb2⟩; obtain ⟨hb2', d3, d4⟩ := HW1.out w2 hb2; replace hb2' := Lib.hid hb2'; clear hb2)
        | (go_at_call 74; refine (HRM.out _ w2 (H1.out.fr.below hb2'.out)).mono ?_; rintro e w3 ⟨rfl, f3, k3, z3⟩; obtain ⟨K1, K2, d5, d6⟩ := H1.out.stored (e' := remE st nm) rfl hb2'.out f3 k3; replace K1 := Lib.hid K1; replace K2 := Lib.hid K2; clear f3 k3 z3))
      all_goals
        have K2' := Lib.hid (fun b (hb : p.R b) => (K2.out b (H1.out.rt b hb) (H1.out.ur b hb).2.1).trans (H2.out b hb))
        have HTT := Lib.hid (fun b (hb : T b) => (show more (more (more T w w1) w1 w2) w3 (w3.setCell ⟨p.eb, 0, none⟩ (.int .i64 (remE st nm))) b from .inl (.inl (.inl hb))))
        clear H1 H2 H HW1 HRM HN K2
        go_wp2
        go_ret
        exact ⟨by congr 2, _, HTT.out, K1.out, K2'.out⟩
  · have s0 : stays p.goes j e = true := by simp [stays, he]
    have o0 : tkOut p.goes j x.s.name st e = false := by simp [tkOut, s0]
    have o1 : tkSt p.goes j x.s.name st e = st := by simp [tkSt, s0]
    have o2 : tkE p.goes j x.s.name st e = e := by simp [tkE, s0]
    unfold Took
    rw [o0, o1, o2]
    refine (take1_err x p.l _ p.lc p.pd p.pl p.eb p.gb p.lb e he T w h.bx).mono ?_
    rintro r w' ⟨rfl, rfl⟩
    exact ⟨rfl, T, fun _ h => h, { h with g := fun h0 => absurd h0 he }, fun _ _ => rfl⟩
end Wal
end Go.Proofs.YtlgjbdfnhaoloaaGreatDoor
end

/- The library's IndexFunc and DeleteFunc at takeOut's own function value (layer 5). -/
section
set_option linter.unusedSimpArgs false
set_option linter.unusedVariables false
namespace Go.Proofs.YtlgjbdfnhaoloaaGreatDoor
open Go.RowKit Go.Sort
namespace Wal
open Dig Frm Dsk

def nmG (x : GS) : Str := x.s.name
/-- How far the taking has come: k are asked, K are kept. -/
def Far (p : TkP) (st0 : St) (T0 : Nat → Prop) (k : Nat) (K : List GS) (w : World) : Prop :=
  ∃ st e T, (∀ b, T0 b → T b) ∧ TkAt p k st e T w ∧ takeL nmG p.goes 0 p.l st0 0 = (K ++ (takeL nmG p.goes k (p.l.drop k) st e).1, (takeL nmG p.goes k (p.l.drop k) st e).2) ∧ st.C.length + (p.l.length - k) ≤ 1000000000

theorem remS_C (st : St) (nm : Str) : (remS st nm).C.length ≤ st.C.length + 1 := by
  unfold remS
  split
  · simp [chg, wrS_C]
  · rw [wrS_C]; omega
theorem tkSt_C (goes : Nat → Bool) (j : Nat) (nm : Str) (st : St) (e : Int) : (tkSt goes j nm st e).C.length ≤ st.C.length + 1 := by
  unfold tkSt
  split
  · omega
  · exact remS_C st nm

/-- One more. -/
theorem Far.next {p : TkP} {st0 : St} {T0 : Nat → Prop} {k : Nat} {K : List GS} {w : World} (h : Far p st0 T0 k K w) {x : GS} (hx : p.l[k]? = some x) :
    ∃ o : Bool, Calls Tryz.prog 73 #[ptrV x, .pointer (some ⟨p.eb, 0, none⟩), .pointer (some ⟨p.gb, 0, none⟩), .pointer (some ⟨p.lb, 0, none⟩)] w fun r w' =>
      r = .returned (.bool o) ∧ Far p st0 T0 (k + 1) (K ++ if o then [] else [x]) w' ∧ (∀ b, p.R b → w'.heap[b]? = w.heap[b]?) := by
  obtain ⟨st, e, T, h1, h2, h3, h4⟩ := h
  have hk := (List.getElem?_eq_some_iff.1 hx).1
  have hxx := (List.getElem?_eq_some_iff.1 hx).2
  refine ⟨tkOut p.goes k x.s.name st e, (take1_any p k st e T w h2 x hx (by omega)).mono ?_⟩
  rintro r w' ⟨rfl, T', t1, t2, t3⟩
  have hd : p.l.drop k = x :: p.l.drop (k + 1) := by rw [List.drop_eq_getElem_cons hk, hxx]
  refine ⟨rfl, ⟨_, _, T', fun b hb => t1 b (h1 b hb), t2, ?_, ?_⟩, t3⟩
  · rw [h3, hd, takeL_cons]
    simp only [List.append_assoc]
    rfl
  · have := tkSt_C p.goes k x.s.name st e; omega
/-- The row is written. -/
theorem Far.row {p : TkP} {st0 : St} {T0 : Nat → Prop} {k : Nat} {K : List GS} {w w' : World} (h : Far p st0 T0 k K w) (hu : Upon p.R w w') : Far p st0 T0 k K w' := by
  obtain ⟨st, e, T, h1, h2, h3, h4⟩ := h
  have hk : ∀ b, T b → ¬ p.R b → w'.heap[b]? = w.heap[b]? := fun b hb hn => hu.block b (h2.fr.lt b hb) hn
  have hT : ∀ b, T b → more T w w' b := fun b hb => .inl hb
  refine ⟨st, e, more T w w', fun b hb => hT b (h1 b hb), { h2 with fr := h2.fr.own (hu.mono fun i hi hs => h2.rt i hs), g := fun h0 => h2.goes.keep k w w' (h2.g h0) fun b hb => hk b (h2.ut b hb) (fun hr => (h2.ur b hr).1 hb), ut := fun b hb => hT b (h2.ut b hb), rt := fun b hb => hT b (h2.rt b hb), bx := ?_ }, h3, h4⟩
  exact { e := (hk _ h2.bx.te fun hr => (h2.ur _ hr).2.1 rfl).trans h2.bx.e, g := (hk _ h2.bx.tg fun hr => (h2.ur _ hr).2.2.1 rfl).trans h2.bx.g, b := (hk _ h2.bx.tl fun hr => (h2.ur _ hr).2.2.2.1 rfl).trans h2.bx.b,
          log := (hk _ h2.bx.tp fun hr => (h2.ur _ hr).2.2.2.2.1 rfl).trans h2.bx.log, disk := h2.bx.disk,
          segs := ⟨fun x hx => (h2.bx.segs.seg x hx).kept fun b hb => hk b (h2.bx.segs.inT x hx b hb) fun hr => (h2.ur b hr).2.2.2.2.2 x hx hb, fun x hx b hb => hT b (h2.bx.segs.inT x hx b hb), h2.bx.segs.apart, h2.bx.segs.fine⟩,
          te := hT _ h2.bx.te, tg := hT _ h2.bx.tg, tl := hT _ h2.bx.tl, tp := hT _ h2.bx.tp }

/-- The function value. -/
def delV (p : TkP) : Value := .func (.func 73) #[] #[.pointer (some ⟨p.eb, 0, none⟩), .pointer (some ⟨p.gb, 0, none⟩), .pointer (some ⟨p.lb, 0, none⟩)]

/-- What IndexFunc leaves. -/
def Indexed (p : TkP) (st0 : St) (T0 : Nat → Prop) (w : World) (r : Ending) (w' : World) : Prop :=
  (∀ b, p.R b → w'.heap[b]? = w.heap[b]?) ∧ ((r = .returned (.int .i64 (-1)) ∧ Far p st0 T0 p.l.length p.l w') ∨ ∃ k : Nat, k < p.l.length ∧ r = .returned (.int .i64 (k : Int)) ∧ Far p st0 T0 (k + 1) (p.l.take k) w')

set_option maxHeartbeats 1600000 in
set_option maxRecDepth 100000 in
theorem index_any (p : TkP) (st0 : St) (T0 : Nat → Prop) (v : Value) (w : World) (h : Far p st0 T0 0 [] w) (hr : RowAt w p.R p.l v) :
    Calls Tryz.prog 86 #[v, delV p] w (Indexed p st0 T0 w) := by
  obtain ⟨g, c, a, rfl, ha, hl1, hl2, hc⟩ := hr.shape
  unfold maxLen at hl2
  have HA := Lib.hid ha
  have HC := Lib.hid hc
  have H := Lib.hid h
  clear h ha hc hr
  unfold delV
  go_enter Tryz.func86, Tryz.ntmps86
  go_wp2_with fail
  go_loopw [8] (fun i wr => ∃ k : Nat, k ≤ p.l.length ∧ i = .int .i64 k ∧ Far p st0 T0 k (p.l.take k) wr ∧ ∀ b, p.R b → wr.heap[b]? = w.heap[b]?) (fun i _ => p.l.length - (intOf i).toNat)
  case atStart => exact ⟨0, Nat.zero_le _, rfl, H.out, fun _ _ => rfl⟩
  case round =>
    obtain ⟨k, hk, rfl, hf, hR⟩ := hrel
    by_cases hlt : k < p.l.length
    · obtain ⟨x, hx⟩ : ∃ x, p.l[k]? = some x := ⟨_, List.getElem?_eq_getElem hlt⟩
      have hne : p.l ≠ [] := by intro e; rw [e] at hlt; simp at hlt
      obtain rfl := HA.out hne
      obtain ⟨hg1, hg2, hcell⟩ := HC.out hne
      have hcx : wr.cell? ⟨g, k, none⟩ = some (ptrV x) := (World.cell?_of_block (w := w) (a := ⟨g, k, none⟩) (hR g hg2)).trans (hcell k x hx)
      obtain ⟨o, hcall⟩ := hf.next hx
      have HCL := Lib.hid hcall
      have HR := Lib.hid hR
      have HT := Lib.hid (show p.l.take k ++ [x] = p.l.take (k + 1) by rw [List.take_succ_eq_append_getElem hlt, (List.getElem?_eq_some_iff.1 hx).2])
      clear hf hR hx hcell hne hcall hg1 hg2
      cases o with
      | true =>
        go_wp2_with fail
        refine HCL.out.mono ?_
        rintro r w1 ⟨rfl, hf1, hR1⟩
        have HF := Lib.hid (show Indexed p st0 T0 w (.returned (.int .i64 (k : Int))) w1 from ⟨fun b hb => (hR1 b hb).trans (HR.out b hb), .inr ⟨k, hlt, rfl, by simpa using hf1⟩⟩)
        clear hf1 hR1 HCL
        go_wp2
        go_ret
        exact HF.out
      | false =>
        go_wp2_with fail
        refine HCL.out.mono ?_
        rintro r w1 ⟨rfl, hf1, hR1⟩
        have HF := Lib.hid (show Far p st0 T0 (k + 1) (p.l.take (k + 1)) w1 by rw [← HT.out]; exact hf1)
        have HR1 := Lib.hid (fun b hb => (hR1 b hb).trans (HR.out b hb))
        clear hf1 hR1 HCL
        go_wp2
        go_roundw
        case rel => exact ⟨k + 1, by omega, by go_num, HF.out, HR1.out⟩
        case measure => simp [intOf]; omega
    · obtain rfl : k = p.l.length := by omega
      have HF := Lib.hid (show Indexed p st0 T0 w (.returned (.int .i64 (-1))) wr from ⟨hR, .inl ⟨rfl, by simpa using hf⟩⟩)
      clear hf hR
      go_wp2
      go_ret
      exact HF.out

/-! ### DeleteFunc -/
theorem row_prefix {w : World} {g n c i : Nat} {e : TypeId} {xs ys : List Value} (h : w.ownsRow 0 e 1 (.slice (some ⟨g, 0, none⟩) n c) n (xs ++ ys)) (hi : xs.length = i) : w.ownsRow 0 e 1 (.slice (some ⟨g, 0, none⟩) i c) i xs := by
  rcases h.2 with ⟨h', _⟩ | ⟨g', cap', cur, h', hb, hg, hnc, hcm, hcs, htake⟩
  · simp at h'
  · simp only [Value.slice.injEq, Option.some.injEq, Addr.mk.injEq, and_true, true_and] at h'
    obtain ⟨rfl, rfl⟩ := h'
    have hl := h.1
    simp at hl
    refine ⟨by simpa using hi, .inr ⟨g, c, cur, rfl, hb, hg, by omega, hcm, hcs, ?_⟩⟩
    have e1 := congrArg (List.take (i * 1)) htake
    rw [List.take_take, Nat.min_eq_left (by omega)] at e1
    rw [e1, List.take_append_of_le_length (by omega), List.take_of_length_le (by omega)]
theorem row_past {g c i : Nat} {e : TypeId} {xs : List Value} : ∀ (vs : List Value) (o : Nat) (w : World), i ≤ o → w.ownsRow 0 e 1 (.slice (some ⟨g, 0, none⟩) i c) i xs → (w.setCells g o vs).ownsRow 0 e 1 (.slice (some ⟨g, 0, none⟩) i c) i xs ∧ Upon (fun b => b = g) w (w.setCells g o vs)
  | [], _, w, _, h => ⟨h, Upon.refl _ _⟩
  | v :: r, o, w, ho, h => by
    have hl : xs.length = i := by simpa using h.1
    have h1 := (h.stored o v).1
    rw [List.set_eq_of_length_le (by omega)] at h1
    obtain ⟨h2, h3⟩ := row_past r (o + 1) (w.setCell ⟨g, o, none⟩ v) (by omega) h1
    exact ⟨h2, ((Upon.refl (fun b => b = g) w).setCell (p := ⟨g, o, none⟩) (.inl rfl) v).trans h3⟩

/-- The row while it is written: K ahead, what is let go behind it, then those that are not yet asked. -/
def Mid (p : TkP) (g c j : Nat) (K : List GS) (w : World) : Prop :=
  ∃ mid : List Value, w.ownsRow 0 54 1 (.slice (some ⟨g, 0, none⟩) p.l.length c) p.l.length (K.map ptrV ++ (mid ++ (p.l.drop j).map ptrV)) ∧ K.length + mid.length = j ∧ mid ≠ []
theorem Mid.at {p : TkP} {g c j : Nat} {K : List GS} {w : World} (h : Mid p g c j K w) {x : GS} (hx : p.l[j]? = some x) : w.cell? ⟨g, j, none⟩ = some (ptrV x) := by
  obtain ⟨mid, h1, h2, _⟩ := h
  have hj := (List.getElem?_eq_some_iff.1 hx).1
  rw [h1.cellAt j (by omega), List.getElem?_append_right (by simp; omega), List.getElem?_append_right (by simp; omega), List.getElem?_map, List.getElem?_drop]
  have e : j + (j - (K.map ptrV).length - mid.length) = j := by simp; omega
  rw [e, hx]
  rfl
theorem Mid.skip {p : TkP} {g c j : Nat} {K : List GS} {w w' : World} (h : Mid p g c j K w) {x : GS} (hx : p.l[j]? = some x) (hk : w'.heap[g]? = w.heap[g]?) : Mid p g c (j + 1) K w' := by
  obtain ⟨mid, h1, h2, h3⟩ := h
  have hj := (List.getElem?_eq_some_iff.1 hx).1
  have hd : p.l.drop j = x :: p.l.drop (j + 1) := by rw [List.drop_eq_getElem_cons hj, (List.getElem?_eq_some_iff.1 hx).2]
  refine ⟨mid ++ [ptrV x], ?_, by simp; omega, by simp⟩
  rw [hd] at h1
  have e : K.map ptrV ++ (mid ++ (x :: p.l.drop (j + 1)).map ptrV) = K.map ptrV ++ ((mid ++ [ptrV x]) ++ (p.l.drop (j + 1)).map ptrV) := by simp
  rw [e] at h1
  exact ownsRow_kept h1 fun b hb => by cases hb; exact hk
theorem Mid.keep {p : TkP} {g c j : Nat} {K : List GS} {w w' : World} (h : Mid p g c j K w) {x : GS} (hx : p.l[j]? = some x) (hk : w'.heap[g]? = w.heap[g]?) :
    Mid p g c (j + 1) (K ++ [x]) (w'.setCell ⟨g, K.length, none⟩ (ptrV x)) ∧ Upon (fun b => b = g) w' (w'.setCell ⟨g, K.length, none⟩ (ptrV x)) := by
  obtain ⟨mid, h1, h2, h3⟩ := h
  have hj := (List.getElem?_eq_some_iff.1 hx).1
  have hd : p.l.drop j = x :: p.l.drop (j + 1) := by rw [List.drop_eq_getElem_cons hj, (List.getElem?_eq_some_iff.1 hx).2]
  cases mid with
  | nil => exact absurd rfl h3
  | cons m r =>
    refine ⟨⟨r ++ [ptrV x], ?_, by simp at h2 ⊢; omega, by simp⟩, (Upon.refl (fun b => b = g) w').setCell (p := ⟨g, K.length, none⟩) (.inl rfl) _⟩
    have h1' := ((ownsRow_kept (w' := w') h1 fun b hb => by cases hb; exact hk).stored K.length (ptrV x)).1
    rw [hd] at h1'
    have e : (K.map ptrV ++ ((m :: r) ++ (x :: p.l.drop (j + 1)).map ptrV)).set K.length (ptrV x) = (K ++ [x]).map ptrV ++ ((r ++ [ptrV x]) ++ (p.l.drop (j + 1)).map ptrV) := by
      rw [List.set_append_right _ _ (by simp)]
      simp
    rw [e] at h1'
    exact h1'
theorem Mid.cell_i {p : TkP} {g c j : Nat} {K : List GS} {w : World} (h : Mid p g c j K w) (hj : j ≤ p.l.length) : (∃ v, w.cell? ⟨g, K.length, none⟩ = some v) ∧ w.frozen? ⟨g, K.length, none⟩ = false := by
  obtain ⟨mid, h1, h2, h3⟩ := h
  have hm : 0 < mid.length := List.length_pos_iff.2 h3
  refine ⟨?_, h1.frozenAt _⟩
  rw [h1.cellAt K.length (by omega), List.getElem?_append_right (by simp)]
  simp only [List.length_map, Nat.sub_self]
  rw [List.getElem?_append_left hm]
  exact ⟨_, List.getElem?_eq_getElem hm⟩
theorem mid_start {p : TkP} {g c k : Nat} {w w' : World} (h : w.ownsRow 0 54 1 (.slice (some ⟨g, 0, none⟩) p.l.length c) p.l.length (p.l.map ptrV)) (hk : k < p.l.length) (hg : w'.heap[g]? = w.heap[g]?) : Mid p g c (k + 1) (p.l.take k) w' := by
  refine ⟨[ptrV p.l[k]], ?_, by simp; omega, by simp⟩
  have e : p.l.map ptrV = (p.l.take k).map ptrV ++ ([ptrV p.l[k]] ++ (p.l.drop (k + 1)).map ptrV) := by
    have e2 : p.l = p.l.take k ++ (p.l[k] :: p.l.drop (k + 1)) := by rw [← List.drop_eq_getElem_cons hk, List.take_append_drop]
    have e3 := congrArg (List.map ptrV) e2
    rw [List.map_append, List.map_cons] at e3
    exact e3
  rw [← e]
  exact ownsRow_kept h fun b hb => by cases hb; exact hg

/-- What DeleteFunc leaves. -/
def Deleted (p : TkP) (st0 : St) (T0 : Nat → Prop) (r : Ending) (w' : World) : Prop :=
  ∃ v K st e T, r = .returned v ∧ (∀ b, T0 b → T b) ∧ TkAt p p.l.length st e T w' ∧ takeL nmG p.goes 0 p.l st0 0 = (K, st, e) ∧ RowAt w' p.R K v
theorem deleted_of {p : TkP} {st0 : St} {T0 : Nat → Prop} {K : List GS} {v : Value} {w : World} (h : Far p st0 T0 p.l.length K w) (hr : RowAt w p.R K v) : Deleted p st0 T0 (.returned v) w := by
  obtain ⟨st, e, T, h1, h2, h3, h4⟩ := h
  refine ⟨v, K, st, e, T, rfl, h1, h2, ?_, hr⟩
  rw [h3, List.drop_of_length_le (Nat.le_refl _)]
  simp [takeL]
/-- Behind clear, and the last cut. -/
theorem deleted_end {p : TkP} {st0 : St} {T0 : Nat → Prop} {K : List GS} {g c : Nat} {w : World} (hR : ∀ b, p.R b ↔ b = g) (h : Far p st0 T0 p.l.length K w) (hm : Mid p g c p.l.length K w) (hc : c ≤ maxLen) :
    (∀ ty, (Builtin.clear_ #[52] ty #[.slice (some ⟨g, K.length, none⟩) (p.l.length - K.length) (c - K.length)]).run Tryz.prog w = .ok (.tuple #[]) (w.setCells g K.length (List.replicate (p.l.length - K.length) (.pointer none)))) ∧
      Deleted p st0 T0 (.returned (.slice (some ⟨g, 0, none⟩) K.length c)) (w.setCells g K.length (List.replicate (p.l.length - K.length) (.pointer none))) ∧ K.length < p.l.length := by
  obtain ⟨mid, h1, h2, h3⟩ := hm
  have hm : 0 < mid.length := List.length_pos_iff.2 h3
  refine ⟨fun ty => ?_, ?_, by omega⟩
  · refine Lib.run_clear_slice w _ _ ty _ Tryz.underlying52 (fun w => by kernel_rfl) rfl rfl g K.length _ _ (by omega) (fun j hj => ?_) (fun j _ => h1.frozenAt _)
    rw [h1.cellAt (K.length + j) (by omega)]
    have hl := h1.1
    rw [List.getElem?_eq_getElem (by omega)]
    rfl
  · have hp := row_prefix (i := K.length) h1 (by simp)
    obtain ⟨r1, r2⟩ := row_past (List.replicate (p.l.length - K.length) (.pointer none)) K.length w (Nat.le_refl _) hp
    exact deleted_of (h.row (r2.mono fun i _ hi => (hR i).2 hi)) ⟨r1, fun b hb => (hR b).2 (by cases hb; rfl)⟩

set_option maxHeartbeats 1600000 in
set_option maxRecDepth 100000 in
theorem delete_any (p : TkP) (st0 : St) (T0 : Nat → Prop) (v : Value) (w : World) (h : Far p st0 T0 0 [] w) (hr : RowAt w p.R p.l v) (hR : ∀ b, v.ownBlock = some b → ∀ x, p.R x ↔ x = b) :
    Calls Tryz.prog 72 #[v, delV p] w (Deleted p st0 T0) := by
  have HI := Lib.hid (index_any p st0 T0 v w h hr)
  obtain ⟨g, c, a, rfl, ha, hl1, hl2, hc⟩ := hr.shape
  have HA := Lib.hid ha
  have HRW := Lib.hid hr
  have HR := Lib.hid hR
  have hm := hl2
  unfold maxLen at hl2
  clear h ha hc hr hR
  unfold delV at HI ⊢
  go_enter Tryz.func72, Tryz.ntmps72
  go_wp2_with fail
  refine HI.out.mono ?_
  rintro r w1 ⟨hR1, hcase⟩
  rcases hcase with ⟨rfl, hf⟩ | ⟨k, hk, rfl, hf⟩
  · have HF := Lib.hid (deleted_of hf (HRW.out.kept hR1))
    clear hf hR1 HI
    go_wp2
    go_ret
    exact HF.out
  · have hne : p.l ≠ [] := by intro e; rw [e] at hk; simp at hk
    obtain rfl := HA.out hne
    have HRG := Lib.hid (HR.out g rfl)
    have HM := Lib.hid (mid_start HRW.out.row hk (hR1 g ((HRG.out g).2 rfl)))
    have HF := Lib.hid hf
    have hkn : ((k : Int) == -1) = false := by simp
    have hkt : (p.l.take k).length = k := by rw [List.length_take]; omega
    have hst : Hid (∃ (j : Nat) (K : List GS), j ≤ p.l.length ∧ K.length < j ∧ Value.int .i64 (k : Int) = .int .i64 (K.length : Int) ∧ Value.int .i64 ((k : Int) + 1) = .int .i64 (j : Int) ∧ Far p st0 T0 j K w1 ∧ Mid p g c j K w1) :=
      Lib.hid ⟨k + 1, p.l.take k, by omega, by omega, by rw [hkt], by go_num, HF.out, HM.out⟩
    clear hf hR1 HI hkt HM HF HR HA HRW
    go_wp2_with fail
    go_loopw [5, 6] (fun iv jv wr => ∃ (j : Nat) (K : List GS), j ≤ p.l.length ∧ K.length < j ∧ iv = .int .i64 (K.length : Int) ∧ jv = .int .i64 (j : Int) ∧ Far p st0 T0 j K wr ∧ Mid p g c j K wr) (fun _ j _ => p.l.length - (intOf j).toNat)
    case atStart => exact hst.out
    case round =>
      obtain ⟨j, K, hj, hKj, rfl, rfl, hf, hmid⟩ := hrel
      by_cases hlt : j < p.l.length
      · obtain ⟨x, hx⟩ : ∃ x, p.l[j]? = some x := ⟨_, List.getElem?_eq_getElem hlt⟩
        have hcx := hmid.at hx
        obtain ⟨o, hcall⟩ := hf.next hx
        have HCL := Lib.hid hcall
        have HM := Lib.hid hmid
        have HX := Lib.hid hx
        clear hf hmid hx hcall
        cases o with
        | true =>
          go_wp2_with fail
          refine HCL.out.mono ?_
          rintro r w2 ⟨rfl, hf1, hR1⟩
          have HF := Lib.hid (show Far p st0 T0 (j + 1) K w2 by simpa using hf1)
          have HM2 := Lib.hid (HM.out.skip HX.out (hR1 g ((HRG.out g).2 rfl)))
          clear hf1 hR1 HCL HM
          go_wp2
          go_roundw
          case rel => exact ⟨j + 1, K, by omega, by omega, rfl, by go_num, HF.out, HM2.out⟩
          case measure => simp [intOf]; omega
        | false =>
          go_wp2_with fail
          refine HCL.out.mono ?_
          rintro r w2 ⟨rfl, hf1, hR1⟩
          obtain ⟨m1, m2⟩ := HM.out.keep HX.out (hR1 g ((HRG.out g).2 rfl))
          have HF := Lib.hid (show Far p st0 T0 (j + 1) (K ++ [x]) (w2.setCell ⟨g, K.length, none⟩ (ptrV x)) from Far.row (by simpa using hf1) (m2.mono fun i _ hi => (HRG.out i).2 hi))
          have hmk : Mid p g c j K w2 ∨ True := .inr trivial
          have hg2 : w2.heap[g]? = wr.heap[g]? := hR1 g ((HRG.out g).2 rfl)
          obtain ⟨⟨v0, ci⟩, fi⟩ := HM.out.cell_i hj
          have ci2 : w2.cell? ⟨g, K.length, none⟩ = some v0 := (World.cell?_of_block (w := wr) (a := ⟨g, K.length, none⟩) hg2).trans ci
          have fi2 : w2.frozen? ⟨g, K.length, none⟩ = false := (World.frozen?_of_block (w := wr) (a := ⟨g, K.length, none⟩) hg2).trans fi
          have HM2 := Lib.hid m1
          clear hf1 hR1 HCL HM m1 m2 hmk hg2 ci fi
          have hKl : (K.length : Int) < (p.l.length : Int) := by omega
          unfold ptrV at hcx HF HM2 ⊢
          go_wp2
          go_roundw
          case rel => exact ⟨j + 1, K ++ [x], by omega, by simp; omega, by simp, by go_num, HF.out, HM2.out⟩
          case measure => simp [intOf]; omega
      · obtain rfl : j = p.l.length := by omega
        obtain ⟨hclr, hdel, hlen⟩ := deleted_end HRG.out hf hmid hm
        have HD := Lib.hid hdel
        have hKc : ¬ c = K.length := by omega
        clear hf hmid hdel
        go_wp2
        go_ret
        exact HD.out
end Wal
end Go.Proofs.YtlgjbdfnhaoloaaGreatDoor
end

/- takeOut (layer 5): segments that go are removed, one by one. -/
section
set_option linter.unusedSimpArgs false
set_option linter.unusedVariables false
namespace Go.Proofs.YtlgjbdfnhaoloaaGreatDoor
open Go.RowKit Go.Sort
namespace Wal
open Dig Frm Dsk

/-- What takeOut leaves: the row's value v is now in the log's cells. -/
structure Taken (B : Nat) (W : World) (S : Nat → Prop) (pd pl : Nat) (goes : Nat → Bool) (l : List GS) (st : St) (lc : Array Value) (T : Nat → Prop) (w' : World) (K : List GS) (st' : St) (e : Int) (v : Value) (T' : Nat → Prop) : Prop where
  fr : Fr B W S pd st' T' w'
  eq : takeL nmG goes 0 l st 0 = (K, st', e)
  row : RowAt w' T' K v
  segs : SegsAt w' T' K
  cell : w'.heap[pl]? = some (.cells (lc.setIfInBounds 1 v) 56 (0, 0))
  sub : ∀ b, T b → T' b
  c : st'.C.length ≤ st.C.length + l.length
def TakenOut (B : Nat) (W : World) (S : Nat → Prop) (pd pl : Nat) (goes : Nat → Bool) (l : List GS) (st : St) (lc : Array Value) (T : Nat → Prop) (r : Ending) (w' : World) : Prop :=
  ∃ K st' e v T', r = .returned (.int .i64 e) ∧ Taken B W S pd pl goes l st lc T w' K st' e v T'

theorem takeL_C {α : Type} (nm : α → Str) (goes : Nat → Bool) : ∀ (l : List α) (j : Nat) (st : St) (e : Int), (takeL nm goes j l st e).2.1.C.length ≤ st.C.length + l.length
  | [], _, _, _ => by simp [takeL]
  | x :: r, j, st, e => by
    rw [takeL_cons]
    have h1 := takeL_C nm goes r (j + 1) (tkSt goes j (nm x) st e) (tkE goes j (nm x) st e)
    have h2 := tkSt_C goes j (nm x) st e
    simp only [List.length_cons]
    omega

theorem tk_start {B : Nat} {W w w1 : World} {S T : Nat → Prop} {F : FuncId} {caps : Array Value} {goes : Nat → Bool} {l : List GS} {G : Nat → World → Prop} {U : Nat → Prop} {lc : Array Value} {pd pl : Nat} {st : St} {v : Value}
    (hf : Fr B W S pd st T w) (hg : GoesAt F caps goes l G U) (h0 : G 0 w) (hs : SegsAt w T l) (hr : RowAt w T l v) (hl : w.heap[pl]? = some (.cells lc 56 (0, 0))) (hlc : lc[0]? = some (.pointer (some ⟨pd, 0, none⟩))) (hp : T pl)
    (hU : ∀ b, U b → T b) (hUp : ¬ U pl) (hUs : ∀ x ∈ l, ∀ b, own x b → ¬ U b) (hUr : ∀ b, v.ownBlock = some b → ¬ U b) (hC : st.C.length + l.length ≤ 1000000000)
    (hu : Upon (fun _ => False) w w1) (hz : w.heap.size + 2 < w1.heap.size) (h1 : w1.heap[w.heap.size]? = some (.cells #[.pointer (some ⟨pl, 0, none⟩)] 28 (0, 0)))
    (h2 : w1.heap[w.heap.size + 1]? = some (.cells #[.func (.func F) #[] caps] 59 (0, 0))) (h3 : w1.heap[w.heap.size + 2]? = some (.cells #[.int .i64 0] 29 (0, 0))) :
    Far ⟨B, W, S, F, caps, goes, l, G, U, lc, pd, pl, w.heap.size + 2, w.heap.size + 1, w.heap.size, fun b => v.ownBlock = some b⟩ st T 0 [] w1 := by
  have hk : ∀ b, T b → w1.heap[b]? = w.heap[b]? := fun b hb => hu.block b (hf.lt b hb) (fun h => h)
  have hT : ∀ b, T b → more T w w1 b := fun b hb => .inl hb
  have hplt := hf.lt pl hp
  refine ⟨st, 0, more T w w1, hT, ?_, by simp, by simp; exact hC⟩
  have hUlt : ∀ b, U b → b < w.heap.size := fun b hb => hf.lt b (hU b hb)
  exact {
    fr := hf.own (hu.mono fun _ _ h => h.elim)
    bx := { e := h3, g := h2, b := h1, log := (hk pl hp).trans hl, disk := hlc, segs := (hs.kept hk).mono hT, te := .inr ⟨by simp, by simpa using hz⟩, tg := .inr ⟨by simp, by simp; omega⟩, tl := .inr ⟨Nat.le_refl _, by simp; omega⟩, tp := hT _ hp }
    g := fun _ => hg.keep 0 w w1 h0 fun b hb => hk b (hU b hb)
    ut := fun b hb => hT b (hU b hb)
    rt := fun b hb => hT b (hr.inT b hb)
    ur := fun b hb => by
      have hlt := hf.lt b (hr.inT b hb)
      refine ⟨hUr b hb, by simp; omega, by simp; omega, by simp; omega, ?_, fun x hx => hr.ne (hs.seg x hx) hb⟩
      rintro rfl
      obtain ⟨c, hc⟩ := hr.type _ hb
      rw [hl] at hc
      simp at hc
    ue := ⟨fun h => by have := hUlt (w.heap.size + 2) h; omega, fun h => by have := hUlt (w.heap.size + 1) h; omega, fun h => by have := hUlt w.heap.size h; omega, hUp⟩
    us := hUs
    ne := ⟨by simp, by simp, by simp; omega⟩
    goes := hg }

/-- Behind DeleteFunc: the log's cells take the new row. -/
theorem taken_of {B : Nat} {W w2 : World} {S T : Nat → Prop} {F : FuncId} {caps : Array Value} {goes : Nat → Bool} {l : List GS} {G : Nat → World → Prop} {U : Nat → Prop} {lc : Array Value} {pd pl eb gb lb : Nat} {st : St} {v : Value} {r : Ending}
    (h : Deleted ⟨B, W, S, F, caps, goes, l, G, U, lc, pd, pl, eb, gb, lb, fun b => v.ownBlock = some b⟩ st T r w2) (hv : ∀ b, v.ownBlock = some b → T b) :
    ∃ v' e, r = .returned v' ∧ (∃ a n c, v' = .slice a n c) ∧ w2.cell? ⟨lb, 0, none⟩ = some (.pointer (some ⟨pl, 0, none⟩)) ∧ w2.heap[pl]? = some (.cells lc 56 (0, 0)) ∧ (w2.setCell ⟨pl, 1, none⟩ v').cell? ⟨eb, 0, none⟩ = some (.int .i64 e) ∧
      TakenOut B W S pd pl goes l st lc T (.returned (.int .i64 e)) (w2.setCell ⟨pl, 1, none⟩ v') := by
  obtain ⟨v', K, st', e, T', rfl, h1, h2, h3, h4⟩ := h
  have hsub := takeL_sub nmG goes l 0 st 0
  rw [h3] at hsub
  have hc := takeL_C nmG goes l 0 st 0
  rw [h3] at hc
  have hple : eb ≠ pl := h2.ne.2.2
  have hrow : RowAt w2 T' K v' := ⟨h4.row, fun b hb => h1 b (hv b (h4.inT b hb))⟩
  have hs := h2.bx.segs.sub hsub
  have hlog := h2.bx.log
  simp only at hlog
  refine ⟨v', e, rfl, ?_, cell_of_one h2.bx.b, hlog, ?_, K, st', e, v', more T' w2 (w2.setCell ⟨pl, 1, none⟩ v'), rfl, ?_⟩
  · obtain ⟨g, c, a, e, _⟩ := h4.shape
    exact ⟨_, _, _, e⟩
  · rw [World.cell?_setCell_other _ _ _ _ (fun e => hple (by have := congrArg Addr.block e; exact this.symm))]
    exact cell_of_one h2.bx.e
  · have hu : Upon T' w2 (w2.setCell ⟨pl, 1, none⟩ v') := (Upon.refl _ w2).setCell (p := ⟨pl, 1, none⟩) (.inl h2.bx.tp) _
    have hk : ∀ b, b ≠ pl → (w2.setCell ⟨pl, 1, none⟩ v').heap[b]? = w2.heap[b]? := fun b hb => Below.heap_setCell _ _ _ _ hb
    refine { fr := h2.fr.own hu, eq := h3, row := ⟨ownsRow_kept h4.row fun b hb => hk b ?_, fun b hb => .inl (hrow.inT b hb)⟩, segs := ⟨fun x hx => (hs.seg x hx).kept fun b hb => hk b ?_, fun x hx b hb => .inl (hs.inT x hx b hb), hs.apart, hs.fine⟩, cell := set_at hlog, sub := fun b hb => .inl (h1 b hb), c := hc }
    · rintro rfl
      obtain ⟨c, hc⟩ := h4.type _ hb
      rw [hlog] at hc
      simp at hc
    · rintro rfl
      obtain ⟨c, T2, e1, e2⟩ := own_type (hs.seg x hx) hb
      rw [hlog] at e1
      simp at e1
      rcases e2 with rfl | rfl <;> exact absurd e1.2 (by decide)

set_option maxHeartbeats 3200000 in
set_option maxRecDepth 100000 in
theorem takeOut_any (B : Nat) (W : World) (S T : Nat → Prop) (F : FuncId) (caps : Array Value) (goes : Nat → Bool) (l : List GS) (G : Nat → World → Prop) (U : Nat → Prop) (lc : Array Value) (pd pl : Nat) (st : St) (v : Value) (w : World)
    (hf : Fr B W S pd st T w) (hg : GoesAt F caps goes l G U) (h0 : G 0 w) (hs : SegsAt w T l) (hr : RowAt w T l v) (hl : w.heap[pl]? = some (.cells lc 56 (0, 0))) (hlc : lc[0]? = some (.pointer (some ⟨pd, 0, none⟩))) (hlv : lc[1]? = some v) (hp : T pl)
    (hU : ∀ b, U b → T b) (hUp : ¬ U pl) (hUs : ∀ x ∈ l, ∀ b, own x b → ¬ U b) (hUr : ∀ b, v.ownBlock = some b → ¬ U b) (hC : st.C.length + l.length ≤ 1000000000) :
    Calls Tryz.prog 45 #[.pointer (some ⟨pl, 0, none⟩), .func (.func F) #[] caps] w (TakenOut B W S pd pl goes l st lc T) := by
  have HS := Lib.hid (fun w1 hu hz h1 h2 h3 => tk_start (w1 := w1) hf hg h0 hs hr hl hlc hp hU hUp hUs hUr hC hu hz h1 h2 h3)
  have HRW := Lib.hid (fun w1 (hu : Upon (fun _ => False) w w1) => (show RowAt w1 (fun b => v.ownBlock = some b) l v from ⟨(hr.kept fun b hb => hu.block b (hf.lt b hb) (fun h => h)).row, fun b hb => hb⟩))
  have HV := Lib.hid hr.inT
  have c1 : w.cell? ⟨pl, 1, none⟩ = some v := by rw [Lib.cell_of_heap hl]; exact hlv
  have HL := Lib.hid (hf.lt pl hp)
  have hvs : ∃ a n c, v = .slice a n c := by obtain ⟨g, c, a, e, _⟩ := hr.shape; exact ⟨_, _, _, e⟩
  have HLV := Lib.hid hlv
  obtain ⟨W1, hW1⟩ : ∃ x, x = (((w.alloc (.cells #[.pointer (some ⟨pl, 0, none⟩)] 28 (0, 0))).alloc (.cells #[.func (.func F) #[] caps] 59 (0, 0))).alloc (.cells #[.int .i64 0] 29 (0, 0))).drew := ⟨_, rfl⟩
  have hu1 : Upon (fun _ => False) w W1 := by rw [hW1]; exact ((((Upon.refl _ w).alloc _).alloc _).alloc _).drew
  have hz1 : W1.heap.size = w.heap.size + 3 := by rw [hW1]; simp
  have hFar := HS.out W1 hu1 (by omega) (by rw [hW1]; exact (Below.heap_alloc _ _ _ (by simp; omega)).trans ((Below.heap_alloc _ _ _ (by simp)).trans (cell_new w _))) (by
    rw [hW1]
    have := cell_new (w.alloc (.cells #[.pointer (some ⟨pl, 0, none⟩)] 28 (0, 0))) (.cells #[.func (.func F) #[] caps] 59 (0, 0))
    exact (Below.heap_alloc _ _ _ (by simp)).trans (by simpa using this)) (by
    rw [hW1]
    have := cell_new ((w.alloc (.cells #[.pointer (some ⟨pl, 0, none⟩)] 28 (0, 0))).alloc (.cells #[.func (.func F) #[] caps] 59 (0, 0))) (.cells #[.int .i64 0] 29 (0, 0))
    have e : ((w.alloc (.cells #[.pointer (some ⟨pl, 0, none⟩)] 28 (0, 0))).alloc (.cells #[.func (.func F) #[] caps] 59 (0, 0))).heap.size = w.heap.size + 2 := by simp
    rw [e] at this
    exact this)
  have HDEL := Lib.hid (delete_any _ st T v W1 hFar (HRW.out W1 hu1) (fun b hb x => ⟨fun h => Option.some.inj (h.symm.trans hb), fun h => by rw [h]; exact hb⟩))
  rw [hW1] at HDEL
  unfold delV at HDEL
  clear hf hg h0 hs hr hl hlc hlv hp hU hUp hUs hUr hC hFar hu1 hz1 hW1 HS HRW
  have c1a := fun (o o2 o3 : Obj) => (World.cell?_alloc_lt ((w.alloc o).alloc o2) o3 ⟨pl, 1, none⟩ (by have := HL.out; simp; omega)).trans ((World.cell?_alloc_lt (w.alloc o) o2 ⟨pl, 1, none⟩ (by have := HL.out; simp; omega)).trans ((World.cell?_alloc_lt w o ⟨pl, 1, none⟩ HL.out).trans c1))
  go_enter Tryz.func45, Tryz.ntmps45
  go_wp2_with fail
  go_region_with (go_at_call 72; refine HDEL.out.mono ?_; rintro r w2 hd; obtain ⟨v', e, rfl, ⟨a', n', c', rfl⟩, d1, d2, d3, hT⟩ := taken_of hd HV.out; have d4 : w2.cell? ⟨pl, 1, none⟩ = some v := (by rw [Lib.cell_of_heap d2]; exact HLV.out); have d5 := Lib.frozen_of_heap d2 1; replace hT := Lib.hid hT; clear hd d2)
  all_goals
    clear c1 c1a HDEL HL HV HLV
    go_wp2
    go_ret
    exact hT.out
end Wal
end Go.Proofs.YtlgjbdfnhaoloaaGreatDoor
end

/- A log (layer 5) in memory as plain data; First, Last, Durable, tail, tidy. -/
section
set_option linter.unusedSimpArgs false
set_option linter.unusedVariables false
namespace Go.Proofs.YtlgjbdfnhaoloaaGreatDoor
open Go.RowKit Go.Sort
namespace Wal
open Dig Frm Dsk

def handV (h : Bool) (l : List GS) : Value := if h then (match l.getLast? with | some x => ptrV x | none => .pointer none) else .pointer none
def logCells (pd : Nat) (lg : Lg) (l : List GS) (v : Value) : Array Value := #[.pointer (some ⟨pd, 0, none⟩), v, handV lg.hand l, .bool lg.nm, .int .i64 (lg.last : Int), .int .i64 (lg.dur : Int)]

structure LogM (w : World) (T : Nat → Prop) (pd pl : Nat) (lg : Lg) (l : List GS) (v : Value) : Prop where
  cell : w.heap[pl]? = some (.cells (logCells pd lg l v) 56 (0, 0))
  row : RowAt w T l v
  segs : SegsAt w T l
  eq : lg.segs = l.map (·.s)
  tp : T pl
  last : lg.last ≤ 1000000000000000
  dur : lg.dur ≤ 1000000000000000
  hand : lg.hand = true → l ≠ []

/-- The log is lg, on the disk st; S are the blocks of both. -/
def LG (B : Nat) (w : World) (S : Nat → Prop) (pd pl : Nat) (st : St) (lg : Lg) : Prop := ∃ T l v, Fr B w S pd st T w ∧ LogM w T pd pl lg l v

theorem Fr.restart {B : Nat} {W w : World} {S T : Nat → Prop} {pd : Nat} {st : St} (h : Fr B W S pd st T w) : Fr B w (more S W w) pd st T w := by
  obtain ⟨Sd, hd, h1, h2⟩ := h.disk
  refine ⟨h.env, ⟨Sd, hd, h1, fun b hb => .inl ?_⟩, h.lt, fun b hb => .inl ?_, Upon.refl _ _, Nat.le_trans h.lo h.upon.size, ?_⟩
  · rcases h2 b hb with h' | h'
    · exact .inl h'
    · exact .inr ⟨h', hd.lt b hb⟩
  · rcases h.tin b hb with h' | h'
    · exact .inl h'
    · exact .inr ⟨h', h.lt b hb⟩
  · rintro b (hb | hb)
    · exact h.low b hb
    · exact Nat.le_trans h.lo hb.1
/-- What a step of the log leaves. -/
structure LStep (B : Nat) (S : Nat → Prop) (pd pl : Nat) (st : St) (lg : Lg) (w w' : World) : Prop where
  log : LG B w' (more S w w') pd pl st lg
  upon : Upon S w w'
theorem LStep.of {B : Nat} {W w : World} {S T : Nat → Prop} {pd pl : Nat} {st : St} {lg : Lg} {l : List GS} {v : Value} (h : Fr B W S pd st T w) (hl : LogM w T pd pl lg l v) : LStep B S pd pl st lg W w :=
  ⟨⟨T, l, v, h.restart, hl⟩, h.upon⟩

theorem LogM.kept {w w' : World} {T : Nat → Prop} {pd pl : Nat} {lg : Lg} {l : List GS} {v : Value} (h : LogM w T pd pl lg l v) (hk : ∀ b, T b → w'.heap[b]? = w.heap[b]?) : LogM w' T pd pl lg l v :=
  { h with cell := (hk _ h.tp).trans h.cell, row := h.row.kept hk, segs := h.segs.kept hk }
theorem LogM.mono {w : World} {T T' : Nat → Prop} {pd pl : Nat} {lg : Lg} {l : List GS} {v : Value} (h : LogM w T pd pl lg l v) (hT : ∀ b, T b → T' b) : LogM w T' pd pl lg l v :=
  { h with row := h.row.mono hT, segs := h.segs.mono hT, tp := hT _ h.tp }
theorem LogM.cells {w : World} {T : Nat → Prop} {pd pl : Nat} {lg : Lg} {l : List GS} {v : Value} (h : LogM w T pd pl lg l v) :
    w.cell? ⟨pl, 0, none⟩ = some (.pointer (some ⟨pd, 0, none⟩)) ∧ w.cell? ⟨pl, 1, none⟩ = some v ∧ w.cell? ⟨pl, 2, none⟩ = some (handV lg.hand l) ∧ w.cell? ⟨pl, 3, none⟩ = some (.bool lg.nm) ∧ w.cell? ⟨pl, 4, none⟩ = some (.int .i64 (lg.last : Int)) ∧
    w.cell? ⟨pl, 5, none⟩ = some (.int .i64 (lg.dur : Int)) ∧ ∀ o, w.frozen? ⟨pl, o, none⟩ = false := by
  refine ⟨?_, ?_, ?_, ?_, ?_, ?_, fun o => Lib.frozen_of_heap h.cell o⟩ <;> (rw [Lib.cell_of_heap h.cell]; rfl)
theorem LogM.disk {w : World} {T : Nat → Prop} {pd pl : Nat} {lg : Lg} {l : List GS} {v : Value} (h : LogM w T pd pl lg l v) : (logCells pd lg l v)[0]? = some (.pointer (some ⟨pd, 0, none⟩)) := rfl
/-- The log's own block lies in none of the segments' blocks, nor in the row's. -/
theorem LogM.pl_own {w : World} {T : Nat → Prop} {pd pl : Nat} {lg : Lg} {l : List GS} {v : Value} (h : LogM w T pd pl lg l v) : (∀ x ∈ l, ¬ own x pl) ∧ v.ownBlock ≠ some pl := by
  constructor
  · intro x hx ho
    obtain ⟨c, T2, e1, e2⟩ := own_type (h.segs.seg x hx) ho
    rw [h.cell] at e1
    simp at e1
    rcases e2 with rfl | rfl <;> exact absurd e1.2 (by decide)
  · intro e
    obtain ⟨c, hc⟩ := h.row.type _ e
    rw [h.cell] at hc
    simp at hc
/-- A cell of the log's own block is written. -/
theorem LogM.set {B : Nat} {W w : World} {S T : Nat → Prop} {pd pl : Nat} {st : St} {lg lg' : Lg} {l : List GS} {v x : Value} (hf : Fr B W S pd st T w) (h : LogM w T pd pl lg l v) (o : Nat) (hs : lg'.segs = lg.segs) (hl : lg'.last ≤ 1000000000000000) (hd : lg'.dur ≤ 1000000000000000)
    (hh : lg'.hand = true → l ≠ []) (hc : (logCells pd lg l v).setIfInBounds o x = logCells pd lg' l v) :
    Fr B W S pd st T (w.setCell ⟨pl, o, none⟩ x) ∧ LogM (w.setCell ⟨pl, o, none⟩ x) T pd pl lg' l v := by
  have hu : Upon T w (w.setCell ⟨pl, o, none⟩ x) := (Upon.refl _ w).setCell (p := ⟨pl, o, none⟩) (.inl h.tp) _
  have hk : ∀ b, b ≠ pl → (w.setCell ⟨pl, o, none⟩ x).heap[b]? = w.heap[b]? := fun b hb => Below.heap_setCell _ _ _ _ hb
  obtain ⟨p1, p2⟩ := h.pl_own
  refine ⟨(hf.own hu).narrow fun b hb => .inl hb, ⟨?_, ⟨ownsRow_kept h.row.row fun b hb => hk b (by rintro rfl; exact p2 hb), h.row.inT⟩, ⟨fun y hy => (h.segs.seg y hy).kept fun b hb => hk b (by rintro rfl; exact p1 y hy hb), h.segs.inT, h.segs.apart, h.segs.fine⟩, hs.trans h.eq, h.tp, hl, hd, hh⟩⟩
  rw [set_at h.cell, hc]

/-! ### what is only read -/
set_option maxHeartbeats 400000 in
theorem last_is (T : Nat → Prop) (pd pl : Nat) (lg : Lg) (l : List GS) (v : Value) (w : World) (h : LogM w T pd pl lg l v) :
    Calls Tryz.prog 16 #[.pointer (some ⟨pl, 0, none⟩)] w fun e w' => e = .returned (.int .i64 (lg.last : Int)) ∧ w = w' := by
  obtain ⟨-, -, -, -, c4, -, -⟩ := h.cells
  clear h
  go_enter Tryz.func16, Tryz.ntmps16
  go_wp2
  go_ret
  exact ⟨rfl, rfl⟩
set_option maxHeartbeats 400000 in
theorem dur_is (T : Nat → Prop) (pd pl : Nat) (lg : Lg) (l : List GS) (v : Value) (w : World) (h : LogM w T pd pl lg l v) :
    Calls Tryz.prog 14 #[.pointer (some ⟨pl, 0, none⟩)] w fun e w' => e = .returned (.int .i64 (lg.dur : Int)) ∧ w = w' := by
  obtain ⟨-, -, -, -, -, c5, -⟩ := h.cells
  clear h
  go_enter Tryz.func14, Tryz.ntmps14
  go_wp2
  go_ret
  exact ⟨rfl, rfl⟩
set_option maxHeartbeats 400000 in
theorem first_is (T : Nat → Prop) (pd pl : Nat) (lg : Lg) (l : List GS) (v : Value) (w : World) (h : LogM w T pd pl lg l v) :
    Calls Tryz.prog 20 #[.pointer (some ⟨pl, 0, none⟩)] w fun e w' => e = .returned (.int .i64 (lg.first : Int)) ∧ w = w' := by
  obtain ⟨-, c1, -, -, c4, -, -⟩ := h.cells
  obtain ⟨g, c, a, rfl, ha, hl1, hl2, hc⟩ := h.row.shape
  unfold maxLen at hl2
  have hlast := h.last
  have he := h.eq
  have hs := h.segs.seg
  unfold Lg.first
  rw [he]
  cases l with
  | nil =>
    clear h ha hc hs he
    go_enter Tryz.func20, Tryz.ntmps20
    go_wp2
    go_ret
    exact ⟨rfl, rfl⟩
  | cons x r =>
    obtain rfl := ha (by simp)
    have hcx := (hc (by simp)).2.2 0 x rfl
    unfold ptrV at hcx
    obtain ⟨d0, -, -, -⟩ := (hs x (by simp)).cells
    have hlen : 0 < (x :: r).length := by simp
    show Calls Tryz.prog _ _ w fun e w' => e = .returned (.int .i64 (x.s.first : Int)) ∧ w = w'
    have hn0 : (((x :: r).length : Int) == 0) = false := by simp; omega
    generalize hN : (x :: r).length = N at *
    clear h ha hc hs he hN
    go_enter Tryz.func20, Tryz.ntmps20
    go_wp2
    go_ret
    exact ⟨rfl, rfl⟩
theorem last_elem {l : List GS} (h : l ≠ []) : ∃ x, l.getLast? = some x ∧ l[l.length - 1]? = some x ∧ x ∈ l := by
  refine ⟨l.getLast h, List.getLast?_eq_some_getLast h, ?_, List.getLast_mem h⟩
  rw [← List.getLast?_eq_getElem?]
  exact List.getLast?_eq_some_getLast h
set_option maxHeartbeats 400000 in
theorem tail_is (T : Nat → Prop) (pd pl : Nat) (lg : Lg) (l : List GS) (v : Value) (w : World) (h : LogM w T pd pl lg l v) (x : GS) (hx : l.getLast? = some x) :
    Calls Tryz.prog 27 #[.pointer (some ⟨pl, 0, none⟩)] w fun e w' => e = .returned (.pointer (some ⟨x.b, 0, none⟩)) ∧ ∃ n, w' = w.drewN n := by
  obtain ⟨-, c1, -, -, -, -, -⟩ := h.cells
  obtain ⟨g, c, a, rfl, ha, hl1, hl2, hc⟩ := h.row.shape
  unfold maxLen at hl2
  have hne : l ≠ [] := by rintro rfl; simp at hx
  obtain rfl := ha hne
  have hlen : 1 ≤ l.length := by cases l with | nil => exact absurd rfl hne | cons => simp
  have hcx := (hc hne).2.2 (l.length - 1) x (by rw [← List.getLast?_eq_getElem?]; exact hx)
  unfold ptrV at hcx
  obtain ⟨n, hn⟩ : ∃ n, l.length = n + 1 := ⟨l.length - 1, by omega⟩
  rw [hn, Nat.add_sub_cancel] at hcx
  rw [hn] at c1
  have hw : IntKind.i64.wrap (n : Int) = (n : Int) := IntWalk.i64_in _ (by omega)
  have h0 : (n : Int) < ((n + 1 : Nat) : Int) := by omega
  clear h ha hc hn hlen hne hx
  go_enter Tryz.func27, Tryz.ntmps27
  go_wp2_with fail
  go_quiet (fail)
  go_wp2
  go_ret
  exact ⟨rfl, _, rfl⟩
end Wal
end Go.Proofs.YtlgjbdfnhaoloaaGreatDoor
end

/- tidy (layer 5): segments that go are removed, the names are synced; the function values that tell which go. -/
section
set_option linter.unusedSimpArgs false
set_option linter.unusedVariables false
namespace Go.Proofs.YtlgjbdfnhaoloaaGreatDoor
open Go.RowKit Go.Sort
namespace Wal
open Dig Frm Dsk

/-- What tidy leaves. -/
structure TidiedM (B : Nat) (W : World) (S : Nat → Prop) (pd pl : Nat) (goes : Nat → Bool) (l : List GS) (st : St) (lc : Array Value) (T : Nat → Prop) (w' : World) (K : List GS) (st' : St) (e : Int) (v : Value) (T' : Nat → Prop) : Prop where
  fr : Fr B W S pd st' T' w'
  eq : tidyL goes (l.map (·.s)) st = ⟨K.map (·.s), st', e⟩
  kept : K = (takeL nmG goes 0 l st 0).1
  row : RowAt w' T' K v
  segs : SegsAt w' T' K
  cell : w'.heap[pl]? = some (.cells (lc.setIfInBounds 1 v) 56 (0, 0))
  sub : ∀ b, T b → T' b
  c : st'.C.length ≤ st.C.length + l.length
def TidyOut (B : Nat) (W : World) (S : Nat → Prop) (pd pl : Nat) (goes : Nat → Bool) (l : List GS) (st : St) (lc : Array Value) (T : Nat → Prop) (r : Ending) (w' : World) : Prop :=
  ∃ K st' e v T', r = .returned (.int .i64 e) ∧ TidiedM B W S pd pl goes l st lc T w' K st' e v T'

theorem tidy_eq {goes : Nat → Bool} {l K : List GS} {st st' : St} {e : Int} (h : takeL nmG goes 0 l st 0 = (K, st', e)) :
    tidyL goes (l.map (·.s)) st = if e ≠ 0 ∨ K.length = l.length then ⟨K.map (·.s), st', e⟩ else ⟨K.map (·.s), snS st', snE st'⟩ := by
  have hm := takeL_map (fun x : GS => x.s) Seg.name goes l 0 st 0
  have e1 : takeL (fun x : GS => x.s.name) goes 0 l st 0 = (K, st', e) := h
  rw [e1] at hm
  unfold tidyL
  rw [hm]
  simp only [List.length_map]

theorem snS_C (st : St) : (snS st).C.length ≤ st.C.length := by
  unfold snS
  by_cases h : wrB st = true
  · rw [if_pos h]; exact Nat.zero_le _
  · rw [if_neg h, wrS_C]; exact Nat.le_refl _

set_option maxHeartbeats 1600000 in
set_option maxRecDepth 100000 in
theorem tidy_any (B : Nat) (W : World) (S T : Nat → Prop) (F : FuncId) (caps : Array Value) (goes : Nat → Bool) (l : List GS) (G : Nat → World → Prop) (U : Nat → Prop) (lc : Array Value) (pd pl : Nat) (st : St) (v : Value) (w : World)
    (hf : Fr B W S pd st T w) (hg : GoesAt F caps goes l G U) (h0 : G 0 w) (hs : SegsAt w T l) (hr : RowAt w T l v) (hl : w.heap[pl]? = some (.cells lc 56 (0, 0))) (hlc : lc[0]? = some (.pointer (some ⟨pd, 0, none⟩))) (hlv : lc[1]? = some v) (hp : T pl)
    (hU : ∀ b, U b → T b) (hUp : ¬ U pl) (hUs : ∀ x ∈ l, ∀ b, own x b → ¬ U b) (hUr : ∀ b, v.ownBlock = some b → ¬ U b) (hC : st.C.length + l.length ≤ 1000000000) :
    Calls Tryz.prog 25 #[.pointer (some ⟨pl, 0, none⟩), .func (.func F) #[] caps] w (TidyOut B W S pd pl goes l st lc T) := by
  have HT := Lib.hid (takeOut_any B W S T F caps goes l G U lc pd pl st v w hf hg h0 hs hr hl hlc hlv hp hU hUp hUs hUr hC)
  have c1 : w.cell? ⟨pl, 1, none⟩ = some v := by rw [Lib.cell_of_heap hl]; exact hlv
  have HLV := Lib.hid hlv
  have HLC := Lib.hid hlc
  have HP := Lib.hid hp
  obtain ⟨g, c, a, rfl, -, hl1, hl2, -⟩ := hr.shape
  unfold maxLen at hl2
  clear hf hg h0 hs hr hl hlc hlv hp hU hUp hUs hUr hC
  go_enter Tryz.func25, Tryz.ntmps25
  go_wp2_with fail
  refine HT.out.mono ?_
  rintro r w1 ⟨K, st', e, v', T', rfl, ht⟩
  have hsub := takeL_sub nmG goes l 0 st 0
  rw [ht.eq] at hsub
  have hkl := hsub.length_le
  simp only at hkl
  have hte := tidy_eq ht.eq
  obtain ⟨g', c', a', rfl, -, hk1, hk2, -⟩ := ht.row.shape
  unfold maxLen at hk2
  have d1 : w1.cell? ⟨pl, 1, none⟩ = some (.slice a' K.length c') := by
    rw [Lib.cell_of_heap ht.cell, Array.getElem?_setIfInBounds_self_of_lt (Array.getElem?_eq_some_iff.1 HLV.out).1]
  have d0 : w1.cell? ⟨pl, 0, none⟩ = some (.pointer (some ⟨pd, 0, none⟩)) := by
    rw [Lib.cell_of_heap ht.cell, Array.getElem?_setIfInBounds_ne (by omega)]; exact HLC.out
  have HK := Lib.hid ht
  clear ht hsub HT c1
  by_cases he : e = 0
  · subst he
    by_cases hlen : K.length = l.length
    · have HE := Lib.hid (show TidyOut B W S pd pl goes l st lc T (.returned (.int .i64 0)) w1 from ⟨K, st', 0, _, T', rfl, HK.out.fr, by rw [hte, if_pos (.inr hlen)], by rw [HK.out.eq], HK.out.row, HK.out.segs, HK.out.cell, HK.out.sub, HK.out.c⟩)
      have hle : ((K.length : Int) == (l.length : Int)) = true := by simp; omega
      clear hte HK hlen
      go_wp2
      go_ret
      exact HE.out
    · have hle : ((K.length : Int) == (l.length : Int)) = false := by simp; omega
      rw [if_neg (by omega)] at hte
      have HTE := Lib.hid hte
      have HSN := Lib.hid (HK.out.fr.step (P := fun e => e = .returned (.int .i64 (snE st'))) fun Sd hd => sn_any Sd pd st' w1 hd)
      clear hte hlen
      go_wp2_with fail
      refine HSN.out.mono ?_
      rintro r w2 ⟨rfl, f2, k2, z2⟩
      have HE := Lib.hid (show TidyOut B W S pd pl goes l st lc T (.returned (.int .i64 (snE st'))) w2 from
        ⟨K, snS st', snE st', _, T', rfl, f2, HTE.out, by rw [HK.out.eq], HK.out.row.kept k2, HK.out.segs.kept k2, (k2 _ (HK.out.sub pl HP.out)).trans HK.out.cell, HK.out.sub, Nat.le_trans (snS_C st') HK.out.c⟩)
      clear f2 k2 z2 HSN HK HTE
      go_wp2
      go_ret
      exact HE.out
  · have hne : (e != 0) = true := by simp; exact he
    have HE := Lib.hid (show TidyOut B W S pd pl goes l st lc T (.returned (.int .i64 e)) w1 from ⟨K, st', e, _, T', rfl, HK.out.fr, by rw [hte, if_pos (.inl he)], by rw [HK.out.eq], HK.out.row, HK.out.segs, HK.out.cell, HK.out.sub, HK.out.c⟩)
    clear hte HK he
    go_wp2
    go_ret
    exact HE.out
end Wal
end Go.Proofs.YtlgjbdfnhaoloaaGreatDoor
end

/- The function values that tell which segments go (layer 5): of Open, CutAfter, DropBefore, Reset. -/
section
set_option linter.unusedSimpArgs false
set_option linter.unusedVariables false
namespace Go.Proofs.YtlgjbdfnhaoloaaGreatDoor
open Go.RowKit Go.Sort
namespace Wal
open Dig Frm Dsk

theorem goes_all (l : List GS) : GoesAt 50 #[] (fun _ => true) l (fun _ _ => True) (fun _ => False) := by
  refine ⟨fun args w => (enters_of Tryz.func50 (by kernel_rfl) rfl) args w, fun j x w _ _ _ _ => ?_, fun _ _ _ h _ => h⟩
  show Calls Tryz.prog 50 #[ptrV x] w _
  go_enter Tryz.func50, Tryz.ntmps50
  go_wp2
  go_ret
  exact ⟨rfl, trivial, Upon.refl _ _⟩

set_option maxHeartbeats 400000 in
theorem goes_cut (l : List GS) (bn : Nat) (n : Int) (hn : -9223372036854775808 ≤ n ∧ n ≤ 9223372036854775807) :
    GoesAt 46 #[.pointer (some ⟨bn, 0, none⟩)] (fun j => decide (n < ((l.getD j ⟨0, .pointer none, default⟩).s.first : Int))) l (fun _ w => w.heap[bn]? = some (.cells #[.int .i64 n] 3 (0, 0))) (fun b => b = bn) := by
  refine ⟨fun args w => (enters_of Tryz.func46 (by kernel_rfl) rfl) args w, fun j x w T hx hsegs hg => ?_, fun _ _ _ h hk => (hk _ rfl).trans h⟩
  have hs := hsegs.seg x (List.mem_of_getElem? hx)
  show Calls Tryz.prog 46 #[.pointer (some ⟨x.b, 0, none⟩), .pointer (some ⟨bn, 0, none⟩)] w _
  have hxe : (l.getD j ⟨0, .pointer none, default⟩).s.first = x.s.first := by rw [List.getD_eq_getElem?_getD, hx]; rfl
  simp only [hxe]
  have c1 := cell_of_one hg
  obtain ⟨c0, -, -, -⟩ := hs.cells
  have HG := Lib.hid (fun n => (show (w.drewN n).heap[bn]? = _ from hg))
  clear hs hsegs hg hx hxe
  go_enter Tryz.func46, Tryz.ntmps46
  go_wp2_with fail
  go_quiet (fail)
  go_wp2
  go_ret
  exact ⟨rfl, HG.out _, ⟨rfl, rfl, rfl, Nat.le_refl _, fun _ _ _ => rfl⟩⟩

set_option maxHeartbeats 400000 in
theorem goes_open (l : List GS) (bs : Nat) (stay : Nat) (h1 : stay ≤ 1000000000) (hl : l.length ≤ 1000000000) :
    GoesAt 26 #[.pointer (some ⟨bs, 0, none⟩)] (fun j => decide (stay ≤ j)) l (fun j w => j ≤ 1000000000 ∧ w.heap[bs]? = some (.cells #[.int .i64 ((stay : Int) - (j : Int))] 3 (0, 0))) (fun b => b = bs) := by
  refine ⟨fun args w => (enters_of Tryz.func26 (by kernel_rfl) rfl) args w, fun j x w T hx hsegs hg => ?_, fun _ _ _ h hk => ⟨h.1, (hk _ rfl).trans h.2⟩⟩
  show Calls Tryz.prog 26 #[.pointer (some ⟨x.b, 0, none⟩), .pointer (some ⟨bs, 0, none⟩)] w _
  have hj := (List.getElem?_eq_some_iff.1 hx).1
  obtain ⟨hg0, hg⟩ := hg
  have c1 := cell_of_one hg
  have f1 := free_of_one hg
  have HG := Lib.hid hg
  have hd : decide (stay ≤ j) = decide ((stay : Int) - (j : Int) - 1 < 0) := by rw [decide_eq_decide]; omega
  rw [hd]
  have hfin : ∀ z : Int, z = (stay : Int) - ((j + 1 : Nat) : Int) → ((w.setCell ⟨bs, 0, none⟩ (.int .i64 z)).heap[bs]? = some (.cells #[.int .i64 ((stay : Int) - ((j + 1 : Nat) : Int))] 3 (0, 0))) := fun z hz => by rw [one_setCell HG.out, hz]
  have HFIN := Lib.hid hfin
  clear hsegs hg hx hd hfin
  go_enter Tryz.func26, Tryz.ntmps26
  go_wp2
  go_ret
  exact ⟨by simp, ⟨by omega, HFIN.out _ (by omega)⟩, (Upon.refl (fun b => b = bs) w).setCell (p := ⟨bs, 0, none⟩) (.inl rfl) _⟩

theorem apart_b {w : World} {T : Nat → Prop} {l : List GS} (h : SegsAt w T l) {i j : Nat} {x y : GS} (hx : l[i]? = some x) (hy : l[j]? = some y) (hb : x.b = y.b) : i = j := by
  obtain ⟨hi, rfl⟩ := List.getElem?_eq_some_iff.1 hx
  obtain ⟨hj, rfl⟩ := List.getElem?_eq_some_iff.1 hy
  have hp := List.pairwise_iff_getElem.1 h.apart
  rcases Nat.lt_trichotomy i j with h1 | h1 | h1
  · exact absurd (.inl hb) (hp i j hi hj h1 l[i].b (.inl rfl))
  · exact h1
  · exact absurd (.inl hb.symm) (hp j i hj hi h1 l[j].b (.inl rfl))

theorem infoSeg : (Tryz.prog.info? 68).map (fun i => (i.size)) = some 3 := by kernel_rfl
theorem run_neq_ptr_other {P : Program} (w : World) {tp te : TypeId} {j : TypeInfo} {a b : Addr} {ca cb : Array Value} {ta tb : TypeId} (hp : P.underlying tp = some (.pointer te)) (hte : P.info? te = some j) (hsz : j.size ≠ 0)
    (hne : a ≠ b) (ha : w.heap[a.block]? = some (.cells ca ta (0, 0))) (hb : w.heap[b.block]? = some (.cells cb tb (0, 0))) :
    (binOp .neq tp (.pointer (some a)) (.pointer (some b))).run P w = .ok (.bool true) w := by
  have h : ∀ d : Nat, (Op.equalIn (d + 1) tp (.pointer (some a)) (.pointer (some b))).run P w = .ok false w := fun d => by
    simp [Op.equalIn, run_underlying hp, sizeOf, typeInfo, hte, hsz, run_sameAddr_other w hne ha hb]
  simp only [binOp]
  simp [Op.equal, Op.maxDepth, h 9999]

set_option maxHeartbeats 800000 in
theorem goes_drop (l : List GS) (t : GS) (ht : l.getLast? = some t) (bt bn : Nat) (n : Int) (hn : -9223372036854775808 ≤ n ∧ n ≤ 9223372036854775807) :
    GoesAt 49 #[.pointer (some ⟨bt, 0, none⟩), .pointer (some ⟨bn, 0, none⟩)] (dropGoes (l.map (·.s)) n) l
      (fun _ w => w.heap[bt]? = some (.cells #[.pointer (some ⟨t.b, 0, none⟩)] 54 (0, 0)) ∧ w.heap[bn]? = some (.cells #[.int .i64 n] 3 (0, 0))) (fun b => b = bt ∨ b = bn) := by
  refine ⟨fun args w => (enters_of Tryz.func49 (by kernel_rfl) rfl) args w, fun j x w T hx hsegs hg => ?_, fun _ _ _ h hk => ⟨(hk _ (.inl rfl)).trans h.1, (hk _ (.inr rfl)).trans h.2⟩⟩
  have hs := hsegs.seg x (List.mem_of_getElem? hx)
  have hf := hsegs.fine x (List.mem_of_getElem? hx)
  show Calls Tryz.prog 49 #[.pointer (some ⟨x.b, 0, none⟩), .pointer (some ⟨bt, 0, none⟩), .pointer (some ⟨bn, 0, none⟩)] w _
  obtain ⟨ji, hi, hz1⟩ := Option.map_eq_some_iff.1 infoSeg
  have hj := (List.getElem?_eq_some_iff.1 hx).1
  have htl : l[l.length - 1]? = some t := by rw [← List.getLast?_eq_getElem?]; exact ht
  have hd : dropGoes (l.map (·.s)) n j = (decide (j + 1 ≠ l.length) && decide ((x.s.last : Int) < n)) := by
    unfold dropGoes
    rw [List.length_map, List.getD_eq_getElem?_getD, List.getElem?_map, hx]
    rfl
  rw [hd]
  have c1 := cell_of_one hg.1
  have c2 := cell_of_one hg.2
  have HL := Lib.hid (fun n => last_any x (w.drewN n) (hs.drewN n) hf)
  have HG := Lib.hid (fun m => (show (w.drewN m).heap[bt]? = _ ∧ (w.drewN m).heap[bn]? = _ from hg))
  have HU := Lib.hid (fun m => (show Upon (fun b => b = bt ∨ b = bn) w (w.drewN m) from ⟨rfl, rfl, rfl, Nat.le_refl _, fun _ _ _ => rfl⟩))
  by_cases he : j + 1 = l.length
  · have hxt : x = t := by
      have : l.length - 1 = j := by omega
      rw [this, hx] at htl
      exact Option.some.inj htl
    subst hxt
    have hrun := fun (w : World) => Lib.run_neq_ptr_same (P := Tryz.prog) w (tp := 54) ⟨x.b, 0, none⟩ Tryz.underlying54 hi
    have e1 : decide (j + 1 ≠ l.length) = false := by simp [he]
    rw [e1, Bool.false_and]
    clear hd hs hf hg hx htl ht he e1 hsegs
    go_enter Tryz.func49, Tryz.ntmps49
    go_wp2_with fail
    go_quiet ((go_at_call 28; exact Calls.quiet_of (HL.out _)))
    go_wp2
    go_ret
    exact ⟨rfl, HG.out _, HU.out _⟩
  · have hne : x.b ≠ t.b := fun e => by
      have := apart_b hsegs hx htl e
      omega
    have hcx := hs.cell
    have hct := (hsegs.seg t (List.mem_of_getElem? htl)).cell
    have hrun := fun (n : Nat) => run_neq_ptr_other (P := Tryz.prog) (w.drewN n) (tp := 54) (a := ⟨x.b, 0, none⟩) (b := ⟨t.b, 0, none⟩) Tryz.underlying54 hi (by rw [hz1]; omega) (fun e => hne (congrArg Addr.block e)) hcx hct
    clear hcx hct
    have e1 : decide (j + 1 ≠ l.length) = true := by simp [he]
    rw [e1, Bool.true_and]
    have hlb := hf.size
    have hla := hf.len
    have hto := hf.top
    have hps := hf.pos
    have HLB := Lib.hid (show (x.s.last : Int) ≤ 2000000000000 by unfold Seg.last; omega)
    clear hd hs hf hg hx htl ht he e1 hsegs
    go_enter Tryz.func49, Tryz.ntmps49
    go_wp2_with fail
    go_quiet ((go_at_call 28; exact Calls.quiet_of (HL.out _)))
    go_wp2
    go_ret
    exact ⟨rfl, HG.out _, HU.out _⟩
end Wal
end Go.Proofs.YtlgjbdfnhaoloaaGreatDoor
end

/- Open (layer 5). -/
section
set_option linter.unusedSimpArgs false
set_option linter.unusedVariables false
namespace Go.Proofs.YtlgjbdfnhaoloaaGreatDoor
open Go.RowKit Go.Sort
namespace Wal
open Dig Frm Dsk

/-- What Open leaves. -/
def Opn (B : Nat) (S : Nat → Prop) (pd : Nat) (st : St) (base : Int) (W : World) (r : Ending) (w' : World) : Prop :=
  match (openL st base).lg with
  | none => r = .returned (.tuple #[.pointer none, .int .i64 (openL st base).err]) ∧ Fr B W S pd (openL st base).st (fun _ => False) w'
  | some lg => ∃ pl, r = .returned (.tuple #[.pointer (some ⟨pl, 0, none⟩), .int .i64 0]) ∧ LStep B S pd pl (openL st base).st lg W w'

theorem names_dead_nil {st : St} (h : st.dead = true) : names st = [] := by unfold names; rw [if_pos h]

/-- A log that is just laid, and the count of those that stay. -/
theorem open_laid {B : Nat} {W w1 : World} {S T : Nat → Prop} {pd : Nat} {st : St} {l : List GS} {v : Value} (base : Nat) (hb : base ≤ 99999998) (f1 : Fr B W S pd st T w1) (s1 : SegsAt w1 T l) (r1 : RowAt w1 T l v) (lg : Lg) (hlg : lg = ⟨l.map (·.s), false, false, base, 0⟩)
    (w2 : World) (hw2 : w2 = w1.alloc (.cells (logCells pd lg l v) 56 (0, 0))) : Fr B W S pd st (more T w1 w2) w2 ∧ LogM w2 (more T w1 w2) pd w1.heap.size lg l v := by
  subst hw2
  have hu : Upon T w1 (w1.alloc (.cells (logCells pd lg l v) 56 (0, 0))) := (Upon.refl _ _).alloc _
  have hk : ∀ b, T b → (w1.alloc (.cells (logCells pd lg l v) 56 (0, 0))).heap[b]? = w1.heap[b]? := fun b hb => Below.heap_alloc _ _ b (f1.lt b hb)
  refine ⟨f1.own hu, { cell := cell_new w1 _, row := (r1.kept hk).mono fun b hb => .inl hb, segs := (s1.kept hk).mono fun b hb => .inl hb, eq := by rw [hlg], tp := .inr ⟨Nat.le_refl _, by simp⟩, last := by rw [hlg]; show base ≤ _; omega, dur := by rw [hlg]; show 0 ≤ _; omega, hand := fun h => by rw [hlg] at h; cases h }⟩

/-- Behind the count's box. -/
theorem open_ready {B : Nat} {W w2 w4 : World} {S T : Nat → Prop} {pd pl : Nat} {st : St} {lg : Lg} {l : List GS} {v : Value} (f2 : Fr B W S pd st T w2) (h2 : LogM w2 T pd pl lg l v) (hh : lg.hand = false) (n stay : Nat) (h1 : stay ≤ 1000000000) (hl : l.length ≤ 1000000000)
    (hC : st.C.length + l.length ≤ 1000000000) (hw4 : w4 = (w2.drewN n).alloc (.cells #[.int .i64 (stay : Int)] 3 (0, 0))) :
    Calls Tryz.prog 25 #[.pointer (some ⟨pl, 0, none⟩), .func (.func 26) #[] #[.pointer (some ⟨w2.heap.size, 0, none⟩)]] w4
      (TidyOut B W S pd pl (fun j => decide (stay ≤ j)) l st (logCells pd lg l v) (more T w2 w4)) := by
  have hu : Upon T w2 w4 := by rw [hw4]; exact (show Upon T w2 (w2.drewN n) from ⟨rfl, rfl, rfl, Nat.le_refl _, fun _ _ _ => rfl⟩).alloc _
  have hk : ∀ b, T b → w4.heap[b]? = w2.heap[b]? := fun b hb => by rw [hw4]; exact Below.heap_alloc (w2.drewN n) _ b (f2.lt b hb)
  have hz : w4.heap.size = w2.heap.size + 1 := by rw [hw4]; simp
  have hnew : w4.heap[w2.heap.size]? = some (.cells #[.int .i64 (stay : Int)] 3 (0, 0)) := by rw [hw4]; exact cell_new (w2.drewN n) _
  have h4 : LogM w4 (more T w2 w4) pd pl lg l v := (h2.kept hk).mono fun b hb => .inl hb
  refine tidy_any B W S (more T w2 w4) _ _ _ l _ _ (logCells pd lg l v) pd pl st v w4 (f2.own hu) (goes_open l w2.heap.size stay h1 hl) ⟨by omega, by simpa using hnew⟩ h4.segs h4.row h4.cell rfl rfl h4.tp ?_ ?_ ?_ ?_ hC
  · rintro b rfl; exact .inr ⟨Nat.le_refl _, by omega⟩
  · intro e; have := f2.lt pl h2.tp; omega
  · rintro x hx b hb rfl; have := f2.lt _ (h2.segs.inT x hx _ hb); omega
  · rintro b hb rfl; have := f2.lt _ (h2.row.inT _ hb); omega

theorem lastOf_map (K : List GS) (b : Nat) : lastOf (K.map (·.s)) b = match K.getLast? with | some x => x.s.last | none => b := by
  unfold lastOf
  rw [List.getLast?_map]
  cases K.getLast? <;> rfl
theorem found_le {st : St} (h : Fine st) : (found st).length ≤ 64 := Nat.le_trans (List.length_filterMap_le _ _) (names_len h)
theorem belongF_le {base : Nat} : ∀ (r : List Seg) (i c l : Nat), c ≤ i → (belongF base r i c l).1 ≤ i + r.length
  | [], i, c, l, h => by unfold belongF; simp; exact h
  | s :: r, i, c, l, h => by
    unfold belongF
    split
    · have := belongF_le (base := base) r (i + 1) (i + 1) s.last (Nat.le_refl _)
      simp only [List.length_cons]; omega
    · simp only [List.length_cons]; omega
theorem belong_le (r : List Seg) (base : Nat) : belong r base ≤ r.length := by
  unfold belong
  split
  · omega
  · have := belongF_le (base := base) r 0 0 0 (Nat.le_refl _); omega

set_option maxHeartbeats 800000 in
set_option maxRecDepth 100000 in
theorem open_range (B : Nat) (S : Nat → Prop) (pd : Nat) (st : St) (base : Int) (hb : -9223372036854775808 ≤ base ∧ base ≤ 9223372036854775807) (hr : base < 0 ∨ 99999998 < base) (w : World) (h : Fr B w S pd st (fun _ => False) w) :
    Calls Tryz.prog 10 #[.pointer (some ⟨pd, 0, none⟩), .int .i64 base] w (Opn B S pd st base w) := by
  have e : openL st base = ⟨none, st, 2⟩ := by unfold openL; rw [if_pos hr]
  unfold Opn
  rw [e]
  have H := Lib.hid h
  clear h e
  rcases hr with h1 | h1
  · go_enter Tryz.func10, Tryz.ntmps10
    go_wp2
    go_ret2
    exact ⟨rfl, H.out⟩
  · have h0 : ¬ base < 0 := by omega
    go_enter Tryz.func10, Tryz.ntmps10
    go_wp2
    go_ret2
    exact ⟨rfl, H.out⟩
set_option maxHeartbeats 800000 in
set_option maxRecDepth 100000 in
theorem open_dead (B : Nat) (S : Nat → Prop) (pd : Nat) (st : St) (base : Nat) (hb : base ≤ 99999998) (hd : st.dead = true) (w : World) (h : Fr B w S pd st (fun _ => False) w) :
    Calls Tryz.prog 10 #[.pointer (some ⟨pd, 0, none⟩), .int .i64 (base : Int)] w (Opn B S pd st base w) := by
  have e : openL st (base : Int) = ⟨none, st, 11⟩ := by unfold openL; rw [if_neg (by omega), if_pos hd]
  unfold Opn
  rw [e]
  have H := Lib.hid h
  obtain ⟨Sd, hdk, -, -⟩ := h.disk
  have HU := up_any Sd pd st w hdk
  rw [hd] at HU
  replace HU := Lib.hid HU
  clear h e hd hdk
  go_enter Tryz.func10, Tryz.ntmps10
  go_wp2_with fail
  refine HU.out.mono ?_
  rintro r w1 ⟨rfl, rfl⟩
  go_wp2
  go_ret2
  exact ⟨rfl, H.out⟩

/-- Behind tidy: the log with what stays. -/
theorem open_tidied {B : Nat} {W w5 : World} {S T T' : Nat → Prop} {pd pl : Nat} {goes : Nat → Bool} {l K : List GS} {st st' : St} {e : Int} {base : Nat} {v v' : Value} (hb : base ≤ 99999998) (h : TidiedM B W S pd pl goes l st (logCells pd ⟨l.map (·.s), false, false, base, 0⟩ l v) T w5 K st' e v' T') (hp : T pl) :
    LogM w5 T' pd pl ⟨K.map (·.s), false, false, base, 0⟩ K v' :=
  { cell := h.cell, row := h.row, segs := h.segs, eq := rfl, tp := h.sub pl hp, last := by show base ≤ _; omega, dur := by show 0 ≤ _; omega, hand := fun h => by cases h }

theorem open_eq {st : St} {base : Nat} (hb : base ≤ 99999998) (hd : st.dead = false) {l K : List GS} {st' : St} {e : Int} (hl : l.map (·.s) = found st)
    (ht : tidyL (fun j => decide (belong (l.map (·.s)) base ≤ j)) (l.map (·.s)) st = ⟨K.map (·.s), st', e⟩) :
    openL st (base : Int) = if e ≠ 0 then ⟨none, st', e⟩ else ⟨some ⟨K.map (·.s), false, false, lastOf (K.map (·.s)) base, lastOf (K.map (·.s)) base⟩, st', 0⟩ := by
  rw [hl] at ht
  unfold openL openT
  rw [if_neg (by omega), if_neg (by simp [hd])]
  simp only [Int.toNat_natCast, ht]

set_option maxHeartbeats 3200000 in
set_option maxRecDepth 100000 in
theorem open_up (B : Nat) (S : Nat → Prop) (pd : Nat) (st : St) (base : Nat) (hb : base ≤ 99999998) (hd : st.dead = false) (hF : ∀ f ∈ st.F, f.s.length ≤ 1000000000000) (hC : st.C.length ≤ 900000000) (w : World) (h : Fr B w S pd st (fun _ => False) w) :
    Calls Tryz.prog 10 #[.pointer (some ⟨pd, 0, none⟩), .int .i64 (base : Int)] w (Opn B S pd st base w) := by
  obtain ⟨Sd, hdk, -, -⟩ := h.disk
  have HU := up_any Sd pd st w hdk
  rw [hd] at HU
  replace HU := Lib.hid HU
  have HFS := Lib.hid (foundSegments_any B S pd st hF w h)
  have hfl := found_le h.fine
  have HD := Lib.hid hd
  clear h hd hdk
  go_enter Tryz.func10, Tryz.ntmps10
  go_wp2_with fail
  refine HU.out.mono ?_
  rintro r w0 ⟨rfl, rfl⟩
  go_wp2_with fail
  refine HFS.out.mono ?_
  rintro r w1 ⟨T, l, v, rfl, f1, s1, r1, e1⟩
  obtain ⟨gv, cv, av, rfl, -⟩ := r1.shape
  have hll : l.length ≤ 64 := by have := congrArg List.length e1; rw [List.length_map] at this; omega
  obtain ⟨f2, h2⟩ := open_laid base hb f1 s1 r1 ⟨l.map (·.s), false, false, base, 0⟩ rfl _ rfl
  have HB := Lib.hid (belonging_any _ l _ base hb _ h2.segs h2.row)
  have hbl := belong_le (l.map (·.s)) base
  rw [List.length_map] at hbl
  have HT := Lib.hid (fun n w4 hw4 => open_ready f2 h2 rfl n (belong (l.map (·.s)) base) (by omega) (by omega) (by omega) (w4 := w4) hw4)
  have HP := Lib.hid h2.tp
  have HE := Lib.hid e1
  have c1 := h2.cells.2.1
  have hz : (w1.alloc (.cells (logCells pd ⟨l.map (·.s), false, false, base, 0⟩ l (.slice av l.length cv)) 56 (0, 0))).heap.size = w1.heap.size + 1 := by simp
  rw [hz] at HT
  unfold logCells handV at HB HT c1
  simp only [Bool.false_eq_true, if_false] at HB HT c1
  clear f1 s1 r1 e1 f2 h2 hz HFS HU
  obtain ⟨stay, hst⟩ : ∃ s, belong (l.map (·.s)) base = s := ⟨_, rfl⟩
  rw [hst] at HB HT hbl
  have HST := Lib.hid hst
  clear hst
  go_wp2_with fail
  refine HB.out.mono ?_
  rintro r w2 ⟨rfl, n, rfl⟩
  have HT2 := Lib.hid (HT.out n _ rfl)
  clear HB HT
  go_wp2_with fail
  refine HT2.out.mono ?_
  rintro r w5 ⟨K, st', e, v', T', rfl, ht⟩
  have h5 := open_tidied hb ht (.inl HP.out)
  have HO := Lib.hid (open_eq hb HD.out HE.out (by rw [HST.out]; exact ht.eq))
  have HF5 := Lib.hid ht.fr
  clear ht HT2 c1
  obtain ⟨g5, c5, a5, rfl, -, k1, k2, -⟩ := h5.row.shape
  unfold maxLen at k2
  obtain ⟨-, d1, -, -, d4, d5, fr⟩ := h5.cells
  have f4 := fr 4
  have f5 := fr 5
  have H5 := Lib.hid h5
  clear h5 fr
  by_cases he : e = 0
  · subst he
    by_cases hK : K = []
    · subst hK
      have hset := LogM.set HF5.out H5.out (lg' := ⟨([] : List GS).map (·.s), false, false, base, base⟩) (x := .int .i64 (base : Int)) 5 rfl (by show base ≤ _; omega) (by show base ≤ _; omega) (fun h => by cases h) rfl
      have HR := Lib.hid (show Opn B S pd st base w (.returned (.tuple #[.pointer (some ⟨w1.heap.size, 0, none⟩), .int .i64 0])) (w5.setCell ⟨w1.heap.size, 5, none⟩ (.int .i64 (base : Int))) from by
        unfold Opn
        rw [HO.out, if_neg (by simp)]
        exact ⟨_, rfl, LStep.of hset.1 hset.2⟩)
      clear hset H5 HF5 HO
      go_wp2
      go_ret2
      exact HR.out
    · obtain ⟨x, hx, -, hxm⟩ := last_elem hK
      have hxf := H5.out.segs.fine x hxm
      have hb1 := hxf.size
      have hb2 := hxf.len
      have hb3 := hxf.top
      have hxl : x.s.last ≤ 2000000000000 := by unfold Seg.last; omega
      have hla : lastOf (K.map (·.s)) base = x.s.last := by rw [lastOf_map, hx]
      have HTL := Lib.hid (tail_is T' pd w1.heap.size _ K _ w5 H5.out x hx)
      have HLS := Lib.hid (fun n => last_any x (w5.drewN n) ((H5.out.segs.seg x hxm).drewN n) hxf)
      have hpos : (0 : Int) < (K.length : Int) := by cases K with | nil => exact absurd rfl hK | cons a r => simp
      have HR := Lib.hid (fun n => (show Opn B S pd st base w (.returned (.tuple #[.pointer (some ⟨w1.heap.size, 0, none⟩), .int .i64 0])) (((w5.drewN n).setCell ⟨w1.heap.size, 4, none⟩ (.int .i64 (x.s.last : Int))).setCell ⟨w1.heap.size, 5, none⟩ (.int .i64 (x.s.last : Int))) from by
        have fd : Fr B w S pd st' T' (w5.drewN n) := (HF5.out.own (w1 := w5.drewN n) ⟨rfl, rfl, rfl, Nat.le_refl _, fun _ _ _ => rfl⟩).narrow fun b hb => .inl hb
        have s1 := LogM.set fd (H5.out.kept (w' := w5.drewN n) fun _ _ => rfl) (lg' := ⟨K.map (·.s), false, false, x.s.last, 0⟩) (x := .int .i64 (x.s.last : Int)) 4 rfl (by show x.s.last ≤ _; omega) (by show 0 ≤ _; omega) (fun h => by cases h) rfl
        have s2 := LogM.set s1.1 s1.2 (lg' := ⟨K.map (·.s), false, false, x.s.last, x.s.last⟩) (x := .int .i64 (x.s.last : Int)) 5 rfl (by show x.s.last ≤ _; omega) (by show x.s.last ≤ _; omega) (fun h => by cases h) rfl
        unfold Opn
        rw [HO.out, if_neg (by simp), hla]
        exact ⟨_, rfl, LStep.of s2.1 s2.2⟩))
      clear H5 HF5 HO hK hx hxm hxf hla
      go_wp2_with fail
      refine HTL.out.mono ?_
      rintro r w6 ⟨rfl, n1, rfl⟩
      go_wp2_with fail
      refine (HLS.out n1).mono ?_
      rintro r w6 ⟨rfl, n2, rfl⟩
      clear HTL HLS
      go_wp2
      go_ret2
      first
      | exact HR.out (n1 + n2)
      | (rw [World.drewN_drewN]; exact HR.out (n1 + n2))
  · have hne : (e != 0) = true := by simp; exact he
    have HR := Lib.hid (show Opn B S pd st base w (.returned (.tuple #[.pointer none, .int .i64 e])) w5 from by
      unfold Opn
      rw [HO.out, if_pos he]
      exact ⟨rfl, HF5.out.narrow fun _ h => h.elim⟩)
    clear H5 HF5 HO he
    go_wp2
    go_ret2
    exact HR.out
/-- Open, of any disk. -/
theorem open_any (B : Nat) (S : Nat → Prop) (pd : Nat) (st : St) (base : Int) (hb : -9223372036854775808 ≤ base ∧ base ≤ 9223372036854775807) (hF : ∀ f ∈ st.F, f.s.length ≤ 1000000000000) (hC : st.C.length ≤ 900000000) (w : World) (h : Fr B w S pd st (fun _ => False) w) :
    Calls Tryz.prog 10 #[.pointer (some ⟨pd, 0, none⟩), .int .i64 base] w (Opn B S pd st base w) := by
  by_cases hr : base < 0 ∨ 99999998 < base
  · exact open_range B S pd st base hb hr w h
  · obtain ⟨n, rfl⟩ := Int.eq_ofNat_of_zero_le (show 0 ≤ base by omega)
    cases hd : st.dead with
    | true => exact open_dead B S pd st n (by omega) hd w h
    | false => exact open_up B S pd st n (by omega) hd hF hC w h
end Wal
end Go.Proofs.YtlgjbdfnhaoloaaGreatDoor
end
