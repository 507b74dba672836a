/- Parts, put together: HdPure, HdRow, HdRef1, HdRef2, HdRef3, HdRef4, HdSame, HdCopy. -/
import Derived.Test.YtlgjbcmloochiaaGreatDoorZaPRc1
import Derived.Test.YtlgjbcmloochiaaGreatDoorZaPMt1
import Derived.Test.YtlgjbcmloochiaaGreatDoorZaPRow
import Derived.BigQuiet

/- Layer 13, plainly: a head's rows. Names no function of the program. -/
section
set_option maxRecDepth 100000
namespace Go.Proofs.YtlgjbcmloochiaaGreatDoor
open Go.RowKit
namespace Hd
open Bit Dsk Ob Dig
set_option linter.unusedVariables false

abbrev Pt := Int × Nat
structure Row where
  lab : List Lb.Pr
  pts : List Pt
  last : Int
abbrev H := List Row
/-- Where labels stand, or would. -/
def ix : H → List Lb.Pr → Nat
  | [], _ => 0
  | r :: h, l => if Lb.cmp r.lab l < 0 then ix h l + 1 else 0
theorem ix_le : ∀ (h : H) (l : List Lb.Pr), ix h l ≤ h.length
  | [], _ => Nat.le_refl _
  | r :: h, l => by
    have := ix_le h l
    rw [ix]; split
    · simpa using this
    · exact Nat.zero_le _
theorem ix_is : ∀ {h : H} {l : List Lb.Pr} {j : Nat}, j ≤ h.length → (∀ i (hi : i < h.length), i < j → Lb.cmp h[i].lab l < 0) → (∀ hj : j < h.length, ¬ Lb.cmp h[j].lab l < 0) → ix h l = j
  | [], l, j, hj, _, _ => by have : j = 0 := by simpa using hj
                             rw [this, ix]
  | r :: h, l, 0, hj, _, h2 => by
    have := h2 (by simp)
    rw [ix, if_neg (show ¬ Lb.cmp r.lab l < 0 from this)]
  | r :: h, l, j + 1, hj, h1, h2 => by
    have h0 := h1 0 (by simp) (by omega)
    rw [ix, if_pos (show Lb.cmp r.lab l < 0 from h0), ix_is (j := j) (by simpa using hj) (fun i hi hij => h1 (i + 1) (by simpa using hi) (by omega)) (fun hj => h2 (by simpa using hj))]
theorem ix_before : ∀ {h : H} {l : List Lb.Pr} {i : Nat} (hi : i < h.length), i < ix h l → Lb.cmp h[i].lab l < 0
  | r :: h, l, 0, _, hlt => by
    rw [ix] at hlt
    split at hlt
    · assumption
    · omega
  | r :: h, l, i + 1, hi, hlt => by
    rw [ix] at hlt
    split at hlt
    · exact ix_before (h := h) (by simpa using hi) (by omega)
    · omega
theorem ix_stop : ∀ {h : H} {l : List Lb.Pr} (hi : ix h l < h.length), ¬ Lb.cmp h[ix h l].lab l < 0
  | r :: h, l, hi => by
    by_cases c : Lb.cmp r.lab l < 0
    · have e : ix (r :: h) l = ix h l + 1 := by rw [ix, if_pos c]
      have hi2 : ix h l < h.length := by rw [e] at hi; simpa using hi
      have := ix_stop hi2
      simp only [e, List.getElem_cons_succ]
      exact this
    · have e : ix (r :: h) l = 0 := by rw [ix, if_neg c]
      simp only [e, List.getElem_cons_zero]
      exact c
/-- Are they there? -/
def isIn (h : H) (l : List Lb.Pr) : Bool := match h[ix h l]? with
  | some r => decide (r.lab = l)
  | none => false
theorem isIn_at {h : H} {l : List Lb.Pr} (hi : ix h l < h.length) : isIn h l = decide (h[ix h l].lab = l) := by
  rw [isIn, List.getElem?_eq_getElem hi]
theorem isIn_end {h : H} {l : List Lb.Pr} (hi : ¬ ix h l < h.length) : isIn h l = false := by
  rw [isIn, List.getElem?_eq_none (by omega)]
theorem isIn_lt {h : H} {l : List Lb.Pr} (hi : isIn h l = true) : ∃ hj : ix h l < h.length, h[ix h l].lab = l := by
  by_cases hj : ix h l < h.length
  · exact ⟨hj, by rw [isIn_at hj] at hi; exact of_decide_eq_true hi⟩
  · rw [isIn_end hj] at hi; cases hi
/-- Their greatest time. -/
def lastAt (h : H) (l : List Lb.Pr) : Int := (h[ix h l]?.map Row.last).getD 0
/-- Is a sample too old? -/
def old (h : H) (s : Rc.Smp) : Bool := isIn h s.1 && decide (s.2.1 ≤ lastAt h s.1)
/-- With a row for these labels. -/
def room (h : H) (l : List Lb.Pr) : H := if isIn h l = true then h else h.take (ix h l) ++ [⟨l, [], 0⟩] ++ h.drop (ix h l)
theorem room_in {h : H} {l : List Lb.Pr} (hi : isIn h l = true) : room h l = h := if_pos hi
theorem room_new {h : H} {l : List Lb.Pr} (hi : isIn h l = false) : room h l = h.take (ix h l) ++ [⟨l, [], 0⟩] ++ h.drop (ix h l) := if_neg (by rw [hi]; decide)
theorem room_lt (h : H) (l : List Lb.Pr) : ix h l < (room h l).length := by
  have := ix_le h l
  cases hi : isIn h l with
  | true => rw [room_in hi]; exact (isIn_lt hi).1
  | false => rw [room_new hi]; simp; omega
theorem room_len (h : H) (l : List Lb.Pr) : (room h l).length ≤ h.length + 1 := by
  have := ix_le h l
  cases hi : isIn h l with
  | true => rw [room_in hi]; omega
  | false => rw [room_new hi]; simp; omega
/-- A row with a point more. -/
def grow1 (s : Rc.Smp) (r : Row) : Row := ⟨r.lab, r.pts ++ [(s.2.1, s.2.2)], s.2.1⟩
/-- A sample more. -/
def add (h : H) (s : Rc.Smp) : H := (room h s.1).set (ix h s.1) (grow1 s ((room h s.1)[ix h s.1]'(room_lt h s.1)))
theorem add_len (h : H) (s : Rc.Smp) : (add h s).length ≤ h.length + 1 := by rw [add, List.length_set]; exact room_len h s.1
def puts : H → List Rc.Smp → Option H
  | h, [] => some h
  | h, s :: l => if old h s = true then none else puts (add h s) l
noncomputable def tr (h : H) (r : Rc.R) : Nat := if Rc.chk r ≠ 0 then Rc.chk r else match puts h r.smp with
  | none => 14
  | some g => if 256 < g.length then 4 else 0
def without (l : List Pt) (a b : Int) : List Pt := l.filter fun p => decide (p.1 < a) || decide (b < p.1)
def del1 (ms : List Mt.M) (a b : Int) (r : Row) : Row := if Mt.is ms r.lab = true then ⟨r.lab, without r.pts a b, r.last⟩ else r
def del (h : H) (ms : List Mt.M) (a b : Int) : H := h.map (del1 ms a b)
noncomputable def app (h : H) (r : Rc.R) : H := if tr h r ≠ 0 then h else if r.kind = 2 then del h r.ms r.frm r.til else (puts h r.smp).getD h
def last (h : H) (l : List Lb.Pr) : Int × Bool := if isIn h l = true then (lastAt h l, true) else (0, false)
end Hd
end Go.Proofs.YtlgjbcmloochiaaGreatDoor
end

/- Layer 13: the document's head in memory. A: the blocks that are its own; R: those that it only reads (labels). -/
section
set_option maxRecDepth 100000
namespace Go.Proofs.YtlgjbcmloochiaaGreatDoor
open Go.RowKit Go.ChangeShapes Go.WideShapes
namespace Hd
open Bit Dsk Ob Dig
set_option linter.unusedVariables false

def layP : Rw.Lay Pt := ⟨2, by decide, fun p => [.int .i64 p.1, .int .u64 (p.2 : Int)], fun _ => rfl, fun p u hu => by
  simp only [List.mem_cons, List.not_mem_nil, or_false] at hu
  rcases hu with rfl | rfl <;> rfl⟩
theorem typP : Rw.Typ layP 64 105 16 := Rw.Typ.mk' (z := .agg #[.int .i64 0, .int .u64 0]) Tryz.underlying64 (by kernel_rfl) rfl
/-- A row's cells: labels, points, the greatest time. -/
structure RR where
  lab : Rw.Sl
  pts : Rw.Sl
  last : Int
def layR : Rw.Lay RR := ⟨3, by decide, fun x => [x.lab.v, x.pts.v, .int .i64 x.last], fun _ => rfl, fun x u hu => by
  simp only [List.mem_cons, List.not_mem_nil, or_false] at hu
  rcases hu with rfl | rfl | rfl <;> rfl⟩
abbrev PMine := Rw.Mine layP 105
abbrev RMine := Rw.Mine layR 68
/-- The rows of a head: what is in them. -/
structure RowsR (w : World) (A R : Nat → Prop) (rs : List RR) (h : H) : Prop where
  len : rs.length = h.length
  lab : ∀ i (h1 : i < rs.length) (h2 : i < h.length), Lb.View w R rs[i].lab.v h[i].lab
  pts : ∀ i (h1 : i < rs.length) (h2 : i < h.length), PMine w rs[i].pts.v h[i].pts
  last : ∀ i (h1 : i < rs.length) (h2 : i < h.length), rs[i].last = h[i].last
  own : ∀ i (h1 : i < rs.length) b, rs[i].pts.v.ownBlock = some b → A b
  apart : ∀ i j (hi : i < rs.length) (hj : j < rs.length) b, i ≠ j → rs[i].pts.v.ownBlock = some b → rs[j].pts.v.ownBlock ≠ some b
/-- The head at block p. -/
structure HeadR (w : World) (A R : Nat → Prop) (p : Nat) (u : Rw.Sl) (rs : List RR) (h : H) : Prop where
  box : w.heap[p]? = some (.cells #[u.v] 59 (0, 0))
  row : RMine w u.v rs
  rows : RowsR w A R rs h
  pA : A p
  uA : ∀ b, u.v.ownBlock = some b → A b
  dis : ∀ b, A b → ¬ R b
  lt : ∀ b, A b ∨ R b → b < w.heap.size
section
variable {w w' : World} {A R : Nat → Prop} {p : Nat} {u : Rw.Sl} {rs : List RR} {h : H}
theorem RowsR.upon {T : Nat → Prop} (hh : RowsR w A R rs h) (hu : Upon T w w') (h1 : ∀ b, A b → ¬ T b) (h2 : ∀ b, R b → ¬ T b) : RowsR w' A R rs h :=
  ⟨hh.len, fun i k1 k2 => Rw.View.upon (hh.lab i k1 k2) hu h2, fun i k1 k2 => Rw.Mine.upon (hh.pts i k1 k2) hu fun b hb => h1 b (hh.own i k1 b hb), hh.last, hh.own, hh.apart⟩
theorem HeadR.upon {T : Nat → Prop} (hh : HeadR w A R p u rs h) (hu : Upon T w w') (h1 : ∀ b, A b → ¬ T b) (h2 : ∀ b, R b → ¬ T b) : HeadR w' A R p u rs h :=
  ⟨(hu.block p (Array.getElem?_eq_some_iff.1 hh.box).1 (h1 p hh.pA)).trans hh.box, Rw.Mine.upon hh.row hu fun b hb => h1 b (hh.uA b hb), hh.rows.upon hu h1 h2, hh.pA, hh.uA, hh.dis, fun b hb => Nat.lt_of_lt_of_le (hh.lt b hb) hu.size⟩
theorem HeadR.new (hh : HeadR w A R p u rs h) (hu : New0 w w') : HeadR w' A R p u rs h := hh.upon hu (fun _ _ f => f) fun _ _ f => f
theorem HeadR.len (hh : HeadR w A R p u rs h) : u.n = h.length := by
  rw [← hh.rows.len]
  obtain ⟨ua, un, uc⟩ := u
  rcases hh.row.shape with ⟨h1, h2⟩ | ⟨g, c, h1, -, -, -⟩
  · injection h1 with _ h3 _
    rw [h2]; exact h3
  · injection h1 with _ h3 _
theorem HeadR.few (hh : HeadR w A R p u rs h) : h.length ≤ 9223372036854775807 := by
  rw [← hh.rows.len]
  rcases hh.row.shape with ⟨-, h2⟩ | ⟨g, c, -, h2, h3, -⟩
  · rw [h2]; exact Nat.zero_le _
  · unfold maxLen at h3; omega
theorem HeadR.at (hh : HeadR w A R p u rs h) {i : Nat} (hi : i < h.length) : ∃ (g c : Nat) (r : RR), u = ⟨some ⟨g, 0, none⟩, h.length, c⟩ ∧ g < w.heap.size ∧ rs[i]? = some r ∧ w.cell? ⟨g, i * 3, none⟩ = some (.slice r.lab.a r.lab.n r.lab.c) ∧ w.cell? ⟨g, i * 3 + 1, none⟩ = some (.slice r.pts.a r.pts.n r.pts.c) ∧ w.cell? ⟨g, i * 3 + 2, none⟩ = some (.int .i64 h[i].last) ∧
    Lb.View w R (.slice r.lab.a r.lab.n r.lab.c) h[i].lab ∧ PMine w (.slice r.pts.a r.pts.n r.pts.c) h[i].pts ∧ (∀ j, w.frozen? ⟨g, j, none⟩ = false) := by
  have hl := hh.rows.len
  have hr : i < rs.length := by omega
  obtain ⟨ua, un, uc⟩ := u
  rcases hh.row.shape with ⟨h1, h2⟩ | ⟨g, c, h1, -, -, h4⟩
  · rw [h2] at hr; exact absurd hr (by simp)
  · injection h1 with e1 e2 e3
    subst e1 e2 e3
    refine ⟨g, _, rs[i], by rw [hl], h4, List.getElem?_eq_getElem hr, ?_, ?_, ?_, hh.rows.lab i hr hi, hh.rows.pts i hr hi, fun j => Rw.Mine.frozen hh.row j⟩
    · exact Rw.Mine.cells hh.row hr (t := 0) rfl
    · exact Rw.Mine.cells hh.row hr (t := 1) rfl
    · rw [← hh.rows.last i hr hi]; exact Rw.Mine.cells hh.row hr (t := 2) rfl
end
end Hd
end Go.Proofs.YtlgjbcmloochiaaGreatDoor
end

/- The document's head (layer 13): at, Last, Top, Counts. -/
section
set_option maxRecDepth 100000
namespace Go.Proofs.YtlgjbcmloochiaaGreatDoor
open Go.RowKit Go.Sort
namespace Hd
open Bit Dsk Ob Dig
set_option linter.unusedVariables false

end Hd
end Go.Proofs.YtlgjbcmloochiaaGreatDoor
end

/- The document's head (layer 13): Last, Top, Counts. -/
section
set_option maxRecDepth 100000
namespace Go.Proofs.YtlgjbcmloochiaaGreatDoor
open Go.RowKit Go.Sort
namespace Hd
open Bit Dsk Ob Dig
set_option linter.unusedVariables false

end Hd
end Go.Proofs.YtlgjbcmloochiaaGreatDoor
end

/- The document's head (layer 13): Within, without. -/
section
set_option maxRecDepth 100000
namespace Go.Proofs.YtlgjbcmloochiaaGreatDoor
open Go.RowKit Go.Sort
namespace Hd
open Bit Dsk Ob Dig
set_option linter.unusedVariables false

theorem pview {w : World} {S : Nat → Prop} {A : Option Addr} {n c : Nat} {l : List Pt} (h : Rw.View layP w S (.slice A n c) l) (hp : 0 < l.length) : ∃ b off, A = some ⟨b, off, none⟩ ∧ S b ∧ b < w.heap.size ∧
    ∀ i (hi : i < l.length), w.cell? ⟨b, off + i * 2, none⟩ = some (.int .i64 l[i].1) ∧ w.cell? ⟨b, off + i * 2 + 1, none⟩ = some (.int .u64 (l[i].2 : Int)) := by
  obtain ⟨b, off, h1, h2, h3, h4⟩ := Rw.View.open h hp
  exact ⟨b, off, h1, h2, h3, fun i hi => ⟨h4 i hi 0 _ rfl, h4 i hi 1 _ rfl⟩⟩
/-- A row of the call's own, since w0. -/
def OwnP (w0 w : World) (u : Value) (l : List Pt) : Prop := PMine w u l ∧ (∀ g, u.ownBlock = some g → w0.heap.size ≤ g) ∧ New0 w0 w
theorem OwnP.step {w0 w w' : World} {u : Value} {l : List Pt} (h : OwnP w0 w u l) (hu : New0 w w') : OwnP w0 w' u l := ⟨h.1.new hu, h.2.1, h.2.2.trans hu⟩
theorem OwnP.app {w0 w w' : World} {u u' : Value} {l m : List Pt} (h : OwnP w0 w u l) (hown : PMine w' u' m) (hg : w.grownBy w' u.ownBlock) (hb : u'.ownBlock = u.ownBlock ∨ u'.ownBlock = some w.heap.size) : OwnP w0 w' u' m :=
  ⟨hown, fun g hk => by
    rw [hk] at hb
    rcases hb with hb | hb
    · exact h.2.1 g hb.symm
    · have : g = w.heap.size := by simpa using hb
      have := h.2.2.size
      omega, Rw.grown_new (v' := u') hg (fun g hk => h.2.1 g hk) w0 (Nat.le_refl _) h.2.2⟩
end Hd
end Go.Proofs.YtlgjbcmloochiaaGreatDoor
end

/- The document's head (layer 13): Query. -/
section
set_option maxRecDepth 100000
namespace Go.Proofs.YtlgjbcmloochiaaGreatDoor
open Go.RowKit Go.Sort
namespace Hd
open Bit Dsk Ob Dig
set_option linter.unusedVariables false

end Hd
end Go.Proofs.YtlgjbcmloochiaaGreatDoor
end

/- The document's head (layer 13): Same, of two lists of series. -/
section
set_option maxRecDepth 100000
namespace Go.Proofs.YtlgjbcmloochiaaGreatDoor
open Go.RowKit Go.Sort
namespace Hd
open Bit Dsk Ob Dig
set_option linter.unusedVariables false

set_option maxHeartbeats 3200000 in
theorem psame_any (w : World) (S S' : Nat → Prop) (v1 v2 : Value) (l m : List Pt) (h1 : Rw.View layP w S v1 l) (h2 : Rw.View layP w S' v2 m) :
    Calls Tryz.prog 47 #[v1, v2] w fun e w' => e = .returned (.bool (decide (l = m))) ∧ ∃ n, w' = w.drewN n := by
  obtain ⟨A, c, rfl, hc1, hc2⟩ := Rw.View.shape h1
  obtain ⟨A', c', rfl, hc1', hc2'⟩ := Rw.View.shape h2
  have hA := fun hp => pview h1 hp
  have hA' := fun hp => pview h2 hp
  have hl := Nat.le_trans hc1 hc2
  have hl' := Nat.le_trans hc1' hc2'
  clear hc1 hc2 hc1' hc2'
  unfold maxLen at hl hl'
  by_cases hlen : l.length = m.length
  · have hd : ((l.length : Int) != (m.length : Int)) = false := by rw [hlen]; simp
    replace hA := Lib.hid hA
    replace hA' := Lib.hid hA'
    have hlen2 := Lib.hid hlen
    clear hlen
    go_enter Tryz.func47, Tryz.ntmps47
    go_wp2_with fail
    go_loopw [5] (fun ov wr => ∃ j k : Nat, ov = .int .i64 (j : Int) ∧ j ≤ l.length ∧ Hid (∀ i (h1 : i < l.length) (h2 : i < m.length), i < j → l[i] = m[i]) ∧ wr = w.drewN k) (fun ov _ => l.length - (intOf ov).toNat)
    case atStart => exact ⟨0, 0, rfl, Nat.zero_le _, Lib.hid (fun i _ _ h => absurd h (Nat.not_lt_zero i)), rfl⟩
    case round =>
      obtain ⟨j, k, rfl, hj, hall, rfl⟩ := hrel
      by_cases hlt : j < l.length
      · have hlt' : j < m.length := by have := hlen2.out; omega
        obtain ⟨b, off, rfl, -, -, hcells⟩ := hA.out (by omega)
        obtain ⟨b', off', rfl, -, -, hcells'⟩ := hA'.out (by omega)
        obtain ⟨x0, x1⟩ := hcells j hlt
        obtain ⟨y0, y1⟩ := hcells' j hlt'
        clear hcells hcells' hA hA'
        obtain ⟨p, hp⟩ : ∃ p, l[j] = p := ⟨_, rfl⟩
        obtain ⟨q, hq⟩ : ∃ q, m[j] = q := ⟨_, rfl⟩
        rw [hp] at x0 x1
        rw [hq] at y0 y1
        replace hp := Lib.hid hp
        replace hq := Lib.hid hq
        obtain ⟨a1, a2⟩ := p
        obtain ⟨b1, b2⟩ := q
        by_cases e1 : a1 = b1
        · by_cases e2 : a2 = b2
          · subst e1 e2
            have hnx : Hid (∀ i (h1 : i < l.length) (h2 : i < m.length), i < j + 1 → l[i] = m[i]) := Lib.hid fun i g1 g2 g3 => by
              by_cases e : i = j
              · subst e; rw [hp.out, hq.out]
              · exact hall.out i g1 g2 (by omega)
            clear hall hp hq
            go_wp2_with fail
            go_quiet (fail)
            go_wp2_with fail
            go_roundw
            case rel => exact ⟨j + 1, k + nq, by go_num, hlt, hnx, rfl⟩
            case measure => simp [intOf]; omega
          · have hf1 : decide (a2 = b2) = false := decide_eq_false e2
            have hf2 : ((a2 : Int) == (b2 : Int)) = false := by rw [beq_eq_false_iff_ne]; omega
            have hne : Hid (decide (l = m) = false) := Lib.hid (decide_eq_false fun e => by
              subst e
              have h := hp.out.symm.trans hq.out
              injection h with _ h
              exact e2 h)
            subst e1
            clear hall hp hq
            go_wp2_with fail
            go_quiet (fail)
            go_wp2_with fail
            go_ret
            exact ⟨Lb.ret_b hne.out.symm, k + nq, by rw [World.drewN_drewN]⟩
        · have hf1 : decide (a1 = b1) = false := decide_eq_false e1
          have hf2 : (a1 == b1) = false := by rw [beq_eq_false_iff_ne]; exact e1
          have hne : Hid (decide (l = m) = false) := Lib.hid (decide_eq_false fun e => by
            subst e
            have h := hp.out.symm.trans hq.out
            injection h with h _
            exact e1 h)
          clear hall hp hq
          go_wp2_with fail
          go_quiet (fail)
          go_wp2_with fail
          go_ret
          exact ⟨Lb.ret_b hne.out.symm, k + nq, by rw [World.drewN_drewN]⟩
      · have he : Hid (decide (l = m) = true) := Lib.hid (decide_eq_true (List.ext_getElem hlen2.out fun i g1 g2 => hall.out i g1 g2 (by omega)))
        clear hall hA hA'
        go_wp2_with fail
        go_ret
        exact ⟨Lb.ret_b he.out.symm, k, rfl⟩
  · have hd : ((l.length : Int) != (m.length : Int)) = true := by rw [bne_iff_ne]; omega
    have hne : Hid (decide (l = m) = false) := Lib.hid (decide_eq_false fun e => hlen (by rw [e]))
    clear hA hA'
    go_enter Tryz.func47, Tryz.ntmps47
    go_wp2_with fail
    go_ret
    exact ⟨Lb.ret_b hne.out.symm, 0, rfl⟩

end Hd
end Go.Proofs.YtlgjbcmloochiaaGreatDoor
end

/- The document's head (layer 13): Copy. -/
section
set_option maxRecDepth 100000
namespace Go.Proofs.YtlgjbcmloochiaaGreatDoor
open Go.RowKit Go.Sort
namespace Hd
open Bit Dsk Ob Dig
set_option linter.unusedVariables false

theorem RowsR.mono {w : World} {A A' R R' : Nat → Prop} {rs : List RR} {h : H} (hh : RowsR w A R rs h) (hA : ∀ b, b < w.heap.size → A b → A' b) (hR : ∀ b, b < w.heap.size → R b → R' b) : RowsR w A' R' rs h :=
  ⟨hh.len, fun i k1 k2 => (hh.lab i k1 k2).mono hR, hh.pts, hh.last, fun i k1 b hb => hA b (Rw.Mine.lt (hh.pts i k1 (by have := hh.len; omega)) hb) (hh.own i k1 b hb), hh.apart⟩
theorem RowsR.snoc {w : World} {A R : Nat → Prop} {rs : List RR} {h : H} (hh : RowsR w A R rs h) {r : RR} {x : Row} (h1 : Lb.View w R r.lab.v x.lab) (h2 : PMine w r.pts.v x.pts) (h3 : r.last = x.last) (h4 : ∀ b, r.pts.v.ownBlock = some b → A b)
    (h5 : ∀ b, r.pts.v.ownBlock = some b → ∀ i (k : i < rs.length), rs[i].pts.v.ownBlock ≠ some b) : RowsR w A R (rs ++ [r]) (h ++ [x]) := by
  have hl := hh.len
  have g1 : ∀ i (k1 : i < (rs ++ [r]).length) (k2 : i < (h ++ [x]).length), (∃ k1' : i < rs.length, ∃ k2' : i < h.length, (rs ++ [r])[i] = rs[i] ∧ (h ++ [x])[i] = h[i]) ∨ ((rs ++ [r])[i] = r ∧ (h ++ [x])[i] = x ∧ i = rs.length) := fun i k1 k2 => by
    by_cases hi : i < rs.length
    · exact .inl ⟨hi, by omega, List.getElem_append_left hi, List.getElem_append_left (by omega)⟩
    · have e : i = rs.length := by rw [List.length_append, List.length_singleton] at k1; omega
      have e2 : i = h.length := by omega
      refine .inr ⟨?_, ?_, e⟩
      · subst e; simp
      · have : (h ++ [x])[h.length]'(by simp) = x := by simp
        simp only [e2]; exact this
  refine ⟨by simp [hl], fun i k1 k2 => ?_, fun i k1 k2 => ?_, fun i k1 k2 => ?_, fun i k1 b hb => ?_, fun i j k1 k2 b hij hb he => ?_⟩
  · rcases g1 i k1 k2 with ⟨a, b, e1, e2⟩ | ⟨e1, e2, -⟩
    · rw [e1, e2]; exact hh.lab i a b
    · rw [e1, e2]; exact h1
  · rcases g1 i k1 k2 with ⟨a, b, e1, e2⟩ | ⟨e1, e2, -⟩
    · rw [e1, e2]; exact hh.pts i a b
    · rw [e1, e2]; exact h2
  · rcases g1 i k1 k2 with ⟨a, b, e1, e2⟩ | ⟨e1, e2, -⟩
    · rw [e1, e2]; exact hh.last i a b
    · rw [e1, e2]; exact h3
  · rcases g1 i k1 (by simp at k1 ⊢; omega) with ⟨a, _, e1, _⟩ | ⟨e1, _, -⟩
    · rw [e1] at hb; exact hh.own i a b hb
    · rw [e1] at hb; exact h4 b hb
  · rcases g1 i k1 (by simp at k1 ⊢; omega) with ⟨a, _, e1, _⟩ | ⟨e1, _, e⟩ <;> rcases g1 j k2 (by simp at k2 ⊢; omega) with ⟨a', _, e1', _⟩ | ⟨e1', _, e'⟩
    · rw [e1] at hb; rw [e1'] at he; exact hh.apart i j a a' b hij hb he
    · rw [e1] at hb; rw [e1'] at he; exact h5 b he i a hb
    · rw [e1] at hb; rw [e1'] at he; exact h5 b hb j a' he
    · omega
/-- How far Copy is: the copy's rows so far, all new but the labels. -/
structure Cp (w0 w : World) (R : Nat → Prop) (u : Value) (rs : List RR) (h : H) : Prop where
  row : RMine w u rs
  base : ∀ b, u.ownBlock = some b → w0.heap.size ≤ b
  rows : RowsR w (fun b => w0.heap.size ≤ b ∧ u.ownBlock ≠ some b) R rs h
  new : New0 w0 w
theorem Cp.step {w0 w w' : World} {R : Nat → Prop} {u : Value} {rs : List RR} {h : H} (hh : Cp w0 w R u rs h) (hu : New0 w w') : Cp w0 w' R u rs h :=
  ⟨hh.row.new hu, hh.base, hh.rows.upon hu (fun _ _ f => f) (fun _ _ f => f), hh.new.trans hu⟩
theorem Cp.app {w0 w w' : World} {R : Nat → Prop} {u u' : Value} {rs : List RR} {h : H} (hh : Cp w0 w R u rs h) (hR : ∀ b, R b → b < w0.heap.size) {r : RR} {x : Row} (h1 : Lb.View w R r.lab.v x.lab) (h2 : PMine w r.pts.v x.pts) (h3 : r.last = x.last)
    (h4 : ∀ b, r.pts.v.ownBlock = some b → w0.heap.size ≤ b ∧ u.ownBlock ≠ some b ∧ ∀ i (k : i < rs.length), rs[i].pts.v.ownBlock ≠ some b)
    (hown : RMine w' u' (rs ++ [r])) (hg : w.grownBy w' u.ownBlock) (hb : u'.ownBlock = u.ownBlock ∨ u'.ownBlock = some w.heap.size) : Cp w0 w' R u' (rs ++ [r]) (h ++ [x]) := by
  have hu : Upon (fun y => u.ownBlock = some y) w w' := Upon.grown (Upon.refl _ w) hg (fun k hk => .inl hk)
  have hr := hh.rows.snoc h1 h2 h3 (fun b hb => ⟨(h4 b hb).1, (h4 b hb).2.1⟩) (fun b hb => (h4 b hb).2.2)
  have hlt : ∀ i (k : i < (rs ++ [r]).length) b, (rs ++ [r])[i].pts.v.ownBlock = some b → b < w.heap.size := fun i k b hb => Rw.Mine.lt (hr.pts i k (by rw [← hr.len]; exact k)) hb
  have hr2 := hr.upon hu (fun b hb e => hb.2 e) (fun b hb e => by have := hR b hb; have := hh.base b e; omega)
  refine ⟨hown, fun b hk => ?_, ⟨hr2.len, hr2.lab, hr2.pts, hr2.last, fun i k b hk => ⟨(hr2.own i k b hk).1, fun e => ?_⟩, hr2.apart⟩, Rw.grown_new (v' := u') hg (fun g hk => hh.base g hk) w0 (Nat.le_refl _) hh.new⟩
  · rcases hb with hb | hb
    · exact hh.base b (hb.symm.trans hk)
    · rw [hb] at hk
      injection hk with hk
      have := hh.new.size
      omega
  · rcases hb with hb | hb
    · exact (hr2.own i k b hk).2 (hb.symm.trans e)
    · rw [hb] at e
      injection e with e
      have := hlt i k b hk
      omega
end Hd
end Go.Proofs.YtlgjbcmloochiaaGreatDoor
end
