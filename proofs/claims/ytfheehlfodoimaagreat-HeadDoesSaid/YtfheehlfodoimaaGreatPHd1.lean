/- Parts, put together: HdPure, HdRow, HdRef1, HdRef2, HdRef3, HdRef4, HdSame, HdCopy. -/
import Derived.Test.YtfheehlfodoimaaGreatPRc1
import Derived.Test.YtfheehlfodoimaaGreatPMt1
import Derived.Test.YtfheehlfodoimaaGreatPRow
import Derived.BigQuiet

/- Layer 13, plainly: a head's rows. Names no function of the program. -/
section
set_option maxRecDepth 100000
namespace Go.Proofs.YtfheehlfodoimaaGreat
open Go.RowKit
namespace Hd
open Bit Dsk Ob Dig
set_option linter.unusedVariables false

abbrev Pt := Int × Nat
structure Row where
  lab : List Lb.Pr
  pts : List Pt
  last : Int
abbrev H := List Row
/-- Where labels stand, or would. -/
def ix : H → List Lb.Pr → Nat
  | [], _ => 0
  | r :: h, l => if Lb.cmp r.lab l < 0 then ix h l + 1 else 0
theorem ix_le : ∀ (h : H) (l : List Lb.Pr), ix h l ≤ h.length
  | [], _ => Nat.le_refl _
  | r :: h, l => by
    have := ix_le h l
    rw [ix]; split
    · simpa using this
    · exact Nat.zero_le _
theorem ix_is : ∀ {h : H} {l : List Lb.Pr} {j : Nat}, j ≤ h.length → (∀ i (hi : i < h.length), i < j → Lb.cmp h[i].lab l < 0) → (∀ hj : j < h.length, ¬ Lb.cmp h[j].lab l < 0) → ix h l = j
  | [], l, j, hj, _, _ => by have : j = 0 := by simpa using hj
                             rw [this, ix]
  | r :: h, l, 0, hj, _, h2 => by
    have := h2 (by simp)
    rw [ix, if_neg (show ¬ Lb.cmp r.lab l < 0 from this)]
  | r :: h, l, j + 1, hj, h1, h2 => by
    have h0 := h1 0 (by simp) (by omega)
    rw [ix, if_pos (show Lb.cmp r.lab l < 0 from h0), ix_is (j := j) (by simpa using hj) (fun i hi hij => h1 (i + 1) (by simpa using hi) (by omega)) (fun hj => h2 (by simpa using hj))]
theorem ix_before : ∀ {h : H} {l : List Lb.Pr} {i : Nat} (hi : i < h.length), i < ix h l → Lb.cmp h[i].lab l < 0
  | r :: h, l, 0, _, hlt => by
    rw [ix] at hlt
    split at hlt
    · assumption
    · omega
  | r :: h, l, i + 1, hi, hlt => by
    rw [ix] at hlt
    split at hlt
    · exact ix_before (h := h) (by simpa using hi) (by omega)
    · omega
theorem ix_stop : ∀ {h : H} {l : List Lb.Pr} (hi : ix h l < h.length), ¬ Lb.cmp h[ix h l].lab l < 0
  | r :: h, l, hi => by
    by_cases c : Lb.cmp r.lab l < 0
    · have e : ix (r :: h) l = ix h l + 1 := by rw [ix, if_pos c]
      have hi2 : ix h l < h.length := by rw [e] at hi; simpa using hi
      have := ix_stop hi2
      simp only [e, List.getElem_cons_succ]
      exact this
    · have e : ix (r :: h) l = 0 := by rw [ix, if_neg c]
      simp only [e, List.getElem_cons_zero]
      exact c
/-- Are they there? -/
def isIn (h : H) (l : List Lb.Pr) : Bool := match h[ix h l]? with
  | some r => decide (r.lab = l)
  | none => false
theorem isIn_at {h : H} {l : List Lb.Pr} (hi : ix h l < h.length) : isIn h l = decide (h[ix h l].lab = l) := by
  rw [isIn, List.getElem?_eq_getElem hi]
theorem isIn_end {h : H} {l : List Lb.Pr} (hi : ¬ ix h l < h.length) : isIn h l = false := by
  rw [isIn, List.getElem?_eq_none (by omega)]
theorem isIn_lt {h : H} {l : List Lb.Pr} (hi : isIn h l = true) : ∃ hj : ix h l < h.length, h[ix h l].lab = l := by
  by_cases hj : ix h l < h.length
  · exact ⟨hj, by rw [isIn_at hj] at hi; exact of_decide_eq_true hi⟩
  · rw [isIn_end hj] at hi; cases hi
/-- Their greatest time. -/
def lastAt (h : H) (l : List Lb.Pr) : Int := (h[ix h l]?.map Row.last).getD 0
theorem lastAt_is {h : H} {l : List Lb.Pr} (hj : ix h l < h.length) : lastAt h l = h[ix h l].last := by rw [lastAt, List.getElem?_eq_getElem hj]; rfl
/-- Is a sample too old? -/
def old (h : H) (s : Rc.Smp) : Bool := isIn h s.1 && decide (s.2.1 ≤ lastAt h s.1)
/-- With a row for these labels. -/
def room (h : H) (l : List Lb.Pr) : H := if isIn h l = true then h else h.take (ix h l) ++ [⟨l, [], 0⟩] ++ h.drop (ix h l)
theorem room_in {h : H} {l : List Lb.Pr} (hi : isIn h l = true) : room h l = h := if_pos hi
theorem room_new {h : H} {l : List Lb.Pr} (hi : isIn h l = false) : room h l = h.take (ix h l) ++ [⟨l, [], 0⟩] ++ h.drop (ix h l) := if_neg (by rw [hi]; decide)
theorem room_lt (h : H) (l : List Lb.Pr) : ix h l < (room h l).length := by
  have := ix_le h l
  cases hi : isIn h l with
  | true => rw [room_in hi]; exact (isIn_lt hi).1
  | false => rw [room_new hi]; simp; omega
theorem room_len (h : H) (l : List Lb.Pr) : (room h l).length ≤ h.length + 1 := by
  have := ix_le h l
  cases hi : isIn h l with
  | true => rw [room_in hi]; omega
  | false => rw [room_new hi]; simp; omega
/-- A row with a point more. -/
def grow1 (s : Rc.Smp) (r : Row) : Row := ⟨r.lab, r.pts ++ [(s.2.1, s.2.2)], s.2.1⟩
/-- A sample more. -/
def add (h : H) (s : Rc.Smp) : H := (room h s.1).set (ix h s.1) (grow1 s ((room h s.1)[ix h s.1]'(room_lt h s.1)))
theorem add_len (h : H) (s : Rc.Smp) : (add h s).length ≤ h.length + 1 := by rw [add, List.length_set]; exact room_len h s.1
def puts : H → List Rc.Smp → Option H
  | h, [] => some h
  | h, s :: l => if old h s = true then none else puts (add h s) l
noncomputable def tr (h : H) (r : Rc.R) : Nat := if Rc.chk r ≠ 0 then Rc.chk r else match puts h r.smp with
  | none => 14
  | some g => if 256 < g.length then 4 else 0
def without (l : List Pt) (a b : Int) : List Pt := l.filter fun p => decide (p.1 < a) || decide (b < p.1)
def within (l : List Pt) (a b : Int) : List Pt := l.filter fun p => decide (a ≤ p.1) && decide (p.1 ≤ b)
def del1 (ms : List Mt.M) (a b : Int) (r : Row) : Row := if Mt.is ms r.lab = true then ⟨r.lab, without r.pts a b, r.last⟩ else r
def del (h : H) (ms : List Mt.M) (a b : Int) : H := h.map (del1 ms a b)
noncomputable def app (h : H) (r : Rc.R) : H := if tr h r ≠ 0 then h else if r.kind = 2 then del h r.ms r.frm r.til else (puts h r.smp).getD h
abbrev Ser := List Lb.Pr × List Pt
def ask1 (ms : List Mt.M) (a b : Int) (r : Row) : List Ser := if within r.pts a b ≠ [] ∧ Mt.is ms r.lab = true then [(r.lab, within r.pts a b)] else []
def query (h : H) (ms : List Mt.M) (a b : Int) : List Ser := h.flatMap (ask1 ms a b)
def last (h : H) (l : List Lb.Pr) : Int × Bool := if isIn h l = true then (lastAt h l, true) else (0, false)
def tops : Option Int → H → Option Int
  | o, [] => o
  | none, r :: h => tops (some r.last) h
  | some t, r :: h => tops (some (max t r.last)) h
def top (h : H) : Int × Bool := ((tops none h).getD 0, decide (0 < h.length))
def points (h : H) : Nat := (h.map fun r => r.pts.length).sum
end Hd
end Go.Proofs.YtfheehlfodoimaaGreat
end

/- Layer 13: the document's head in memory. A: the blocks that are its own; R: those that it only reads (labels). -/
section
set_option maxRecDepth 100000
namespace Go.Proofs.YtfheehlfodoimaaGreat
open Go.RowKit Go.ChangeShapes Go.WideShapes
namespace Hd
open Bit Dsk Ob Dig
set_option linter.unusedVariables false

abbrev All : Nat → Prop := fun _ => True
def layP : Rw.Lay Pt := ⟨2, by decide, fun p => [.int .i64 p.1, .int .u64 (p.2 : Int)], fun _ => rfl, fun p u hu => by
  simp only [List.mem_cons, List.not_mem_nil, or_false] at hu
  rcases hu with rfl | rfl <;> rfl⟩
theorem typP : Rw.Typ layP 57 81 16 := Rw.Typ.mk' (z := .agg #[.int .i64 0, .int .u64 0]) Tryz.underlying57 (by kernel_rfl) rfl
/-- A row's cells: labels, points, the greatest time. -/
structure RR where
  lab : Rw.Sl
  pts : Rw.Sl
  last : Int
def layR : Rw.Lay RR := ⟨3, by decide, fun x => [x.lab.v, x.pts.v, .int .i64 x.last], fun _ => rfl, fun x u hu => by
  simp only [List.mem_cons, List.not_mem_nil, or_false] at hu
  rcases hu with rfl | rfl | rfl <;> rfl⟩
theorem typR : Rw.Typ layR 28 59 56 := Rw.Typ.mk' (z := .agg #[.slice none 0 0, .slice none 0 0, .int .i64 0]) Tryz.underlying28 (by kernel_rfl) rfl
abbrev PMine := Rw.Mine layP 81
abbrev RMine := Rw.Mine layR 59
/-- The rows of a head: what is in them. -/
structure RowsR (w : World) (A R : Nat → Prop) (rs : List RR) (h : H) : Prop where
  len : rs.length = h.length
  lab : ∀ i (h1 : i < rs.length) (h2 : i < h.length), Lb.View w R rs[i].lab.v h[i].lab
  pts : ∀ i (h1 : i < rs.length) (h2 : i < h.length), PMine w rs[i].pts.v h[i].pts
  last : ∀ i (h1 : i < rs.length) (h2 : i < h.length), rs[i].last = h[i].last
  own : ∀ i (h1 : i < rs.length) b, rs[i].pts.v.ownBlock = some b → A b
  apart : ∀ i j (hi : i < rs.length) (hj : j < rs.length) b, i ≠ j → rs[i].pts.v.ownBlock = some b → rs[j].pts.v.ownBlock ≠ some b
/-- The head at block p. -/
structure HeadR (w : World) (A R : Nat → Prop) (p : Nat) (u : Rw.Sl) (rs : List RR) (h : H) : Prop where
  box : w.heap[p]? = some (.cells #[u.v] 30 (0, 0))
  row : RMine w u.v rs
  rows : RowsR w A R rs h
  pA : A p
  uA : ∀ b, u.v.ownBlock = some b → A b
  dis : ∀ b, A b → ¬ R b
  lt : ∀ b, A b ∨ R b → b < w.heap.size
section
variable {w w' : World} {A R : Nat → Prop} {p : Nat} {u : Rw.Sl} {rs : List RR} {h : H}
theorem RowsR.upon {T : Nat → Prop} (hh : RowsR w A R rs h) (hu : Upon T w w') (h1 : ∀ b, A b → ¬ T b) (h2 : ∀ b, R b → ¬ T b) : RowsR w' A R rs h :=
  ⟨hh.len, fun i k1 k2 => Rw.View.upon (hh.lab i k1 k2) hu h2, fun i k1 k2 => Rw.Mine.upon (hh.pts i k1 k2) hu fun b hb => h1 b (hh.own i k1 b hb), hh.last, hh.own, hh.apart⟩
theorem HeadR.upon {T : Nat → Prop} (hh : HeadR w A R p u rs h) (hu : Upon T w w') (h1 : ∀ b, A b → ¬ T b) (h2 : ∀ b, R b → ¬ T b) : HeadR w' A R p u rs h :=
  ⟨(hu.block p (Array.getElem?_eq_some_iff.1 hh.box).1 (h1 p hh.pA)).trans hh.box, Rw.Mine.upon hh.row hu fun b hb => h1 b (hh.uA b hb), hh.rows.upon hu h1 h2, hh.pA, hh.uA, hh.dis, fun b hb => Nat.lt_of_lt_of_le (hh.lt b hb) hu.size⟩
theorem HeadR.new (hh : HeadR w A R p u rs h) (hu : New0 w w') : HeadR w' A R p u rs h := hh.upon hu (fun _ _ f => f) fun _ _ f => f
theorem HeadR.len (hh : HeadR w A R p u rs h) : u.n = h.length := by
  rw [← hh.rows.len]
  obtain ⟨ua, un, uc⟩ := u
  rcases hh.row.shape with ⟨h1, h2⟩ | ⟨g, c, h1, -, -, -⟩
  · injection h1 with _ h3 _
    rw [h2]; exact h3
  · injection h1 with _ h3 _
theorem HeadR.few (hh : HeadR w A R p u rs h) : h.length ≤ 9223372036854775807 := by
  rw [← hh.rows.len]
  rcases hh.row.shape with ⟨-, h2⟩ | ⟨g, c, -, h2, h3, -⟩
  · rw [h2]; exact Nat.zero_le _
  · unfold maxLen at h3; omega
/-- What a walk reads of it: the box, and row i's cells. -/
theorem HeadR.box0 (hh : HeadR w A R p u rs h) : w.cell? ⟨p, 0, none⟩ = some (.slice u.a u.n u.c) := by rw [Lib.cell_of_heap hh.box]; rfl
theorem HeadR.boxF (hh : HeadR w A R p u rs h) : w.frozen? ⟨p, 0, none⟩ = false := by simp [World.frozen?, hh.box]
theorem HeadR.at (hh : HeadR w A R p u rs h) {i : Nat} (hi : i < h.length) : ∃ (g c : Nat) (r : RR), u = ⟨some ⟨g, 0, none⟩, h.length, c⟩ ∧ g < w.heap.size ∧ rs[i]? = some r ∧ w.cell? ⟨g, i * 3, none⟩ = some (.slice r.lab.a r.lab.n r.lab.c) ∧ w.cell? ⟨g, i * 3 + 1, none⟩ = some (.slice r.pts.a r.pts.n r.pts.c) ∧ w.cell? ⟨g, i * 3 + 2, none⟩ = some (.int .i64 h[i].last) ∧
    Lb.View w R (.slice r.lab.a r.lab.n r.lab.c) h[i].lab ∧ PMine w (.slice r.pts.a r.pts.n r.pts.c) h[i].pts ∧ (∀ j, w.frozen? ⟨g, j, none⟩ = false) := by
  have hl := hh.rows.len
  have hr : i < rs.length := by omega
  obtain ⟨ua, un, uc⟩ := u
  rcases hh.row.shape with ⟨h1, h2⟩ | ⟨g, c, h1, -, -, h4⟩
  · rw [h2] at hr; exact absurd hr (by simp)
  · injection h1 with e1 e2 e3
    subst e1 e2 e3
    refine ⟨g, _, rs[i], by rw [hl], h4, List.getElem?_eq_getElem hr, ?_, ?_, ?_, hh.rows.lab i hr hi, hh.rows.pts i hr hi, fun j => Rw.Mine.frozen hh.row j⟩
    · exact Rw.Mine.cells hh.row hr (t := 0) rfl
    · exact Rw.Mine.cells hh.row hr (t := 1) rfl
    · rw [← hh.rows.last i hr hi]; exact Rw.Mine.cells hh.row hr (t := 2) rfl
end
end Hd
end Go.Proofs.YtfheehlfodoimaaGreat
end

/- The document's head (layer 13): at, Last, Top, Counts. -/
section
set_option maxRecDepth 100000
namespace Go.Proofs.YtfheehlfodoimaaGreat
open Go.RowKit Go.Sort
namespace Hd
open Bit Dsk Ob Dig
set_option linter.unusedVariables false

set_option maxHeartbeats 1600000 in
theorem at_any (w : World) {A R : Nat → Prop} {p : Nat} {u : Rw.Sl} {rs : List RR} {h : H} (hh : HeadR w A R p u rs h) (S : Nat → Prop) (v : Value) (l : List Lb.Pr) (hv : Lb.View w S v l) :
    Calls Tryz.prog 40 #[.pointer (some ⟨p, 0, none⟩), v] w fun e w' => e = .returned (.tuple #[.int .i64 (ix h l : Int), .bool (isIn h l)]) ∧ ∃ n, w' = w.drewN n := by
  have HC := Lib.hid (fun n T x m (hx : Lb.View (w.drewN n) T x m) => Lb.refcmp_any (w.drewN n) T S x v m l hx (Rw.View.new hv (upon_drewN _ w n)))
  have HS := Lib.hid (fun n T x m (hx : Lb.View (w.drewN n) T x m) => Lb.same_any (w.drewN n) T S x v m l hx (Rw.View.new hv (upon_drewN _ w n)))
  obtain ⟨A1, c1, rfl, -, -⟩ := Rw.View.shape hv
  have hun := hh.len
  have hfew := hh.few
  have hF := Lib.hid (fun n => hh.new (upon_drewN (fun _ => False) w n))
  have hB := Lib.hid (fun n => (hh.new (upon_drewN (fun _ => False) w n)).box0)
  obtain ⟨ua, un, uc⟩ := u
  simp only at hB hun
  subst hun
  clear hv hh
  go_enter Tryz.func40, Tryz.ntmps40
  go_wp2_with fail
  go_loopw [6] (fun ov wr => ∃ j n : Nat, ov = .int .i64 (j : Int) ∧ j ≤ h.length ∧ Hid (∀ i (hi : i < h.length), i < j → Lb.cmp h[i].lab l < 0) ∧ wr = w.drewN n) (fun ov _ => h.length - (intOf ov).toNat)
  case atStart => exact ⟨0, 0, rfl, Nat.zero_le _, Lib.hid (fun i _ hi => absurd hi (Nat.not_lt_zero i)), rfl⟩
  case round =>
    obtain ⟨j, n, rfl, hj, hb, rfl⟩ := hrel
    have b0 := hB.out n
    by_cases hlt : j < h.length
    · obtain ⟨g, c, r, hu, -, -, x0, -, -, hlv, -, -⟩ := (hF.out n).at hlt
      injection hu with e1 e2 e3
      subst e1 e3
      have HC1 := Lib.hid (HC.out n _ _ _ hlv)
      have HS1 := Lib.hid (fun k => HS.out (n + k) _ _ _ (by rw [← World.drewN_drewN]; exact Rw.View.new hlv (upon_drewN _ _ k)))
      have y0 := fun k => Lb.New0.cells (upon_drewN (fun _ => False) (w.drewN n) k) x0
      simp only [World.drewN_drewN] at y0
      have hst := Lib.hid (fun hc : ¬ Lb.cmp h[j].lab l < 0 => ix_is (l := l) hj hb.out (fun _ => hc))
      have hin := Lib.hid (fun hj' => isIn_at (h := h) (l := l) hj')
      obtain ⟨q, hq⟩ : ∃ q, Lb.cmp h[j].lab l = q := ⟨_, rfl⟩
      by_cases hc : q < 0
      · have hb' : Hid (∀ i (hi : i < h.length), i < j + 1 → Lb.cmp h[i].lab l < 0) := Lib.hid (fun i hi hij => by
          by_cases e : i < j
          · exact hb.out i hi e
          · obtain rfl : i = j := by omega
            rw [hq]; exact hc)
        rw [hq] at HC1
        clear HS1 HC HS hst hin hq hb hlv
        go_wp2_with fail
        refine HC1.out.mono ?_
        rintro e w2 ⟨rfl, n2, rfl⟩
        clear HC1
        go_wp2_with fail
        go_roundw
        case rel => exact ⟨j + 1, n + n2, by go_num, hlt, hb', rfl⟩
        case measure => simp [intOf]; omega
      · have hix := hst.out (by rw [hq]; exact hc)
        have hE : Hid (ix h l = j ∧ isIn h l = decide (h[j].lab = l)) := Lib.hid ⟨hix, by rw [hin.out (by rw [hix]; exact hlt)]; simp only [hix]⟩
        rw [hq] at HC1
        obtain ⟨z, hz⟩ : ∃ z, decide (h[j].lab = l) = z := ⟨_, rfl⟩
        rw [hz] at HS1 hE
        have hR : Hid (Ending.returned (.tuple #[.int .i64 (j : Int), .bool z]) = .returned (.tuple #[.int .i64 (ix h l : Int), .bool (isIn h l)])) := Lib.hid (by rw [hE.out.1, hE.out.2])
        clear HC HS hst hin hq hb hlv hix hz hE
        go_wp2_with fail
        refine HC1.out.mono ?_
        rintro e w2 ⟨rfl, n2, rfl⟩
        have y1 := y0 n2
        have c1' := hB.out (n + n2)
        have HS2 := Lib.hid (HS1.out n2)
        clear HC1 HS1 y0
        go_wp2_with fail
        refine HS2.out.mono ?_
        rintro e w3 ⟨rfl, n3, rfl⟩
        clear HS2
        go_wp2_with fail
        go_ret2
        exact ⟨hR.out, n + n2 + n3, rfl⟩
    · have hix : ix h l = j := ix_is hj hb.out (fun h' => absurd h' hlt)
      have hE : Hid (ix h l = j ∧ isIn h l = false) := Lib.hid ⟨hix, isIn_end (by rw [hix]; exact hlt)⟩
      have hR : Hid (Ending.returned (.tuple #[.int .i64 (j : Int), .bool false]) = .returned (.tuple #[.int .i64 (ix h l : Int), .bool (isIn h l)])) := Lib.hid (by rw [hE.out.1, hE.out.2])
      clear HC HS hb hix hE
      go_wp2_with fail
      go_ret2
      exact ⟨hR.out, n, rfl⟩
end Hd
end Go.Proofs.YtfheehlfodoimaaGreat
end

/- The document's head (layer 13): Last, Top, Counts. -/
section
set_option maxRecDepth 100000
namespace Go.Proofs.YtfheehlfodoimaaGreat
open Go.RowKit Go.Sort
namespace Hd
open Bit Dsk Ob Dig
set_option linter.unusedVariables false

set_option maxHeartbeats 1600000 in
theorem last_any (w : World) {A R : Nat → Prop} {p : Nat} {u : Rw.Sl} {rs : List RR} {h : H} (hh : HeadR w A R p u rs h) (S : Nat → Prop) (v : Value) (l : List Lb.Pr) (hv : Lb.View w S v l) :
    Calls Tryz.prog 30 #[.pointer (some ⟨p, 0, none⟩), v] w fun e w' => e = .returned (.tuple #[.int .i64 (last h l).1, .bool (last h l).2]) ∧ New0 w w' := by
  have HA := Lib.hid (at_any w hh S v l hv)
  obtain ⟨A1, c1, rfl, -, -⟩ := Rw.View.shape hv
  clear hv
  cases hi : isIn h l with
  | false =>
    have hR : Hid (Ending.returned (.tuple #[.int .i64 0, .bool false]) = .returned (.tuple #[.int .i64 (last h l).1, .bool (last h l).2])) := Lib.hid (by rw [last, hi]; rfl)
    rw [hi] at HA
    clear hi hh
    go_enter Tryz.func30, Tryz.ntmps30
    go_wp2_with fail
    refine HA.out.mono ?_
    rintro e w2 ⟨rfl, n, rfl⟩
    clear HA
    go_wp2_with fail
    go_ret2
    exact ⟨hR.out, upon_drewN _ _ n⟩
  | true =>
    obtain ⟨hj, -⟩ := isIn_lt hi
    have hR : Hid (Ending.returned (.tuple #[.int .i64 h[ix h l].last, .bool true]) = .returned (.tuple #[.int .i64 (last h l).1, .bool (last h l).2])) := Lib.hid (by rw [last, hi, if_pos rfl, lastAt_is hj])
    rw [hi] at HA
    obtain ⟨g, c, r, hu, -, -, -, -, x2, -, -, -⟩ := hh.at hj
    have b0 := hh.box0
    rw [hu] at b0
    simp only at b0
    have b1 := Lib.hid (fun n => Lb.New0.cells (upon_drewN (fun _ => False) w n) b0)
    have y1 := Lib.hid (fun n => Lb.New0.cells (upon_drewN (fun _ => False) w n) x2)
    obtain ⟨t, ht⟩ : ∃ t, h[ix h l].last = t := ⟨_, rfl⟩
    obtain ⟨j, hj'⟩ : ∃ j, ix h l = j := ⟨_, rfl⟩
    rw [ht] at hR y1
    rw [hj'] at y1 HA hj
    clear hi hh hu b0 x2 ht hj'
    go_enter Tryz.func30, Tryz.ntmps30
    go_wp2_with fail
    refine HA.out.mono ?_
    rintro e w2 ⟨rfl, n, rfl⟩
    have b2 := b1.out n
    have y2 := y1.out n
    clear HA b1 y1
    go_wp2_with fail
    go_ret2
    exact ⟨hR.out, upon_drewN _ _ n⟩
theorem tops_some (t : Int) (h : H) : ∃ x, tops (some t) h = some x := by
  induction h generalizing t with
  | nil => exact ⟨t, rfl⟩
  | cons r h ih => exact ih (max t r.last)
theorem tops_step (o : Option Int) {h : H} {j : Nat} (hj : j < h.length) : tops o (h.take (j + 1)) = some (match tops o (h.take j) with | none => h[j].last | some t => max t h[j].last) := by
  induction h generalizing o j with
  | nil => simp at hj
  | cons r h ih =>
    cases j with
    | zero => cases o <;> simp [tops]
    | succ j =>
      have hj' : j < h.length := by simpa using hj
      cases o with
      | none => simpa [tops] using ih (some r.last) hj'
      | some t => simpa [tops] using ih (some (max t r.last)) hj'
set_option maxHeartbeats 1600000 in
theorem top_any (w : World) {A R : Nat → Prop} {p : Nat} {u : Rw.Sl} {rs : List RR} {h : H} (hh : HeadR w A R p u rs h) :
    Calls Tryz.prog 28 #[.pointer (some ⟨p, 0, none⟩)] w fun e w' => e = .returned (.tuple #[.int .i64 (top h).1, .bool (top h).2]) ∧ New0 w w' := by
  have hfew := hh.few
  have hun := hh.len
  have b0 := hh.box0
  have hF := Lib.hid hh
  obtain ⟨ua, un, uc⟩ := u
  simp only at hun b0
  subst hun
  clear hh
  go_enter Tryz.func28, Tryz.ntmps28
  go_wp2_with fail
  go_loopw [4, 5] (fun tv ov wr => ∃ (j : Nat) (t : Int), tv = .int .i64 t ∧ ov = .int .i64 (j : Int) ∧ j ≤ h.length ∧ Hid ((tops none (h.take j)).getD 0 = t ∧ (0 < j → tops none (h.take j) = some t)) ∧ wr = w) (fun _ ov _ => h.length - (intOf ov).toNat)
  case atStart => exact ⟨0, 0, rfl, rfl, Nat.zero_le _, Lib.hid ⟨by simp [tops], fun h0 => absurd h0 (by omega)⟩, rfl⟩
  case round =>
    obtain ⟨j, t, rfl, rfl, hj, ht, rfl⟩ := hrel
    by_cases hlt : j < h.length
    · obtain ⟨g, c, r, hu, -, -, -, -, x2, -, -, -⟩ := hF.out.at hlt
      injection hu with e1 e2 e3
      subst e1 e3
      have hst := tops_step none hlt
      obtain ⟨q, hq⟩ : ∃ q, h[j].last = q := ⟨_, rfl⟩
      rw [hq] at x2 hst
      by_cases h0 : j = 0
      · subst h0
        simp [tops] at hst
        have hn : Hid ((tops none (h.take (0 + 1))).getD 0 = q ∧ (0 < 0 + 1 → tops none (h.take (0 + 1)) = some q)) := Lib.hid (by rw [show (0 : Nat) + 1 = 1 from rfl, hst]; exact ⟨rfl, fun _ => rfl⟩)
        clear hst hq ht
        go_wp2_with fail
        go_roundw
        case rel => exact ⟨0 + 1, q, rfl, by go_num, hlt, hn, trivial⟩
        case measure => simp [intOf]; omega
      · rw [ht.out.2 (by omega)] at hst
        simp only at hst
        have e0 : ((j : Int) == 0) = false := by rw [beq_eq_false_iff_ne]; omega
        have hn : Hid (∀ m, m = max t q → (tops none (h.take (j + 1))).getD 0 = m ∧ (0 < j + 1 → tops none (h.take (j + 1)) = some m)) := Lib.hid (fun m hm => by rw [hst, hm]; exact ⟨rfl, fun _ => rfl⟩)
        clear hst hq ht
        by_cases hc : t < q
        · go_wp2_with fail
          go_roundw
          case rel => exact ⟨j + 1, q, rfl, by go_num, hlt, Lib.hid (hn.out q (by omega)), trivial⟩
          case measure => simp [intOf]; omega
        · have d2 : decide (t < q) = false := decide_eq_false hc
          go_wp2_with fail
          go_roundw
          case rel => exact ⟨j + 1, t, rfl, by go_num, hlt, Lib.hid (hn.out t (by omega)), trivial⟩
          case measure => simp [intOf]; omega
    · have hje : j = h.length := by omega
      have hR : Hid (Ending.returned (.tuple #[.int .i64 t, .bool (decide (0 < h.length))]) = .returned (.tuple #[.int .i64 (top h).1, .bool (top h).2])) := Lib.hid (by
        have := ht.out.1
        rw [hje, List.take_length] at this
        rw [top, this])
      clear ht hje
      go_wp2_with fail
      go_quiet (fail)
      go_wp2_with fail
      go_ret2
      exact ⟨hR.out, upon_drewN _ _ _⟩
def pts0 (h : H) (j : Nat) : Nat := points (h.take j)
theorem pts_step {h : H} {j : Nat} (hj : j < h.length) : points (h.take (j + 1)) = points (h.take j) + h[j].pts.length := by
  rw [List.take_succ_eq_append_getElem hj, points, points, List.map_append, List.sum_append]
  simp
theorem pts_le : ∀ (h : H) (j : Nat), points (h.take j) ≤ points h
  | [], j => by simp
  | r :: h, 0 => by simp [points]
  | r :: h, j + 1 => by
    have := pts_le h j
    simp only [points, List.take_succ_cons, List.map_cons, List.sum_cons] at *
    omega
set_option maxHeartbeats 1600000 in
theorem counts_any (w : World) {A R : Nat → Prop} {p : Nat} {u : Rw.Sl} {rs : List RR} {h : H} (hh : HeadR w A R p u rs h) (hp : points h ≤ 4611686018427387904) :
    Calls Tryz.prog 26 #[.pointer (some ⟨p, 0, none⟩)] w fun e w' => e = .returned (.tuple #[.int .i64 (h.length : Int), .int .i64 (points h : Int)]) ∧ New0 w w' := by
  have hfew := hh.few
  have hun := hh.len
  have b0 := hh.box0
  have hF := Lib.hid hh
  obtain ⟨ua, un, uc⟩ := u
  simp only at hun b0
  subst hun
  clear hh
  go_enter Tryz.func26, Tryz.ntmps26
  go_wp2_with fail
  go_loopw [4, 5] (fun tv ov wr => ∃ (j t : Nat), tv = .int .i64 (t : Int) ∧ ov = .int .i64 (j : Int) ∧ j ≤ h.length ∧ t ≤ 4611686018427387904 ∧ Hid (points (h.take j) = t) ∧ wr = w) (fun _ ov _ => h.length - (intOf ov).toNat)
  case atStart => exact ⟨0, 0, rfl, rfl, Nat.zero_le _, Nat.zero_le _, Lib.hid (by simp [points]), rfl⟩
  case round =>
    obtain ⟨j, t, rfl, rfl, hj, ht4, ht, rfl⟩ := hrel
    by_cases hlt : j < h.length
    · obtain ⟨g, c, r, hu, -, -, -, x1, -, -, hpm, -⟩ := hF.out.at hlt
      injection hu with e1 e2 e3
      subst e1 e3
      have hst := pts_step hlt
      have hle := pts_le h (j + 1)
      rw [ht.out] at hst
      obtain ⟨A2, c2, e2, -, -⟩ := Rw.View.shape hpm.view
      injection e2 with _ e2 _
      rw [e2] at x1
      obtain ⟨q, hq⟩ : ∃ q, h[j].pts.length = q := ⟨_, rfl⟩
      rw [hq] at x1 hst
      have hle2 : t + q ≤ 4611686018427387904 := by omega
      have hn : Hid (points (h.take (j + 1)) = t + q) := Lib.hid hst
      clear hst hq ht e2 hpm hle
      go_wp2_with fail
      go_roundw
      case rel => exact ⟨j + 1, t + q, by go_num, by go_num, hlt, hle2, hn, trivial⟩
      case measure => simp [intOf]; omega
    · have hje : j = h.length := by omega
      have hR : Hid (Ending.returned (.tuple #[.int .i64 (h.length : Int), .int .i64 (t : Int)]) = .returned (.tuple #[.int .i64 (h.length : Int), .int .i64 (points h : Int)])) := Lib.hid (by
        have := ht.out
        rw [hje, List.take_length] at this
        rw [this])
      clear ht hje
      go_wp2_with fail
      go_ret2
      exact ⟨hR.out, Upon.refl _ _⟩
end Hd
end Go.Proofs.YtfheehlfodoimaaGreat
end

/- The document's head (layer 13): Within, without. -/
section
set_option maxRecDepth 100000
namespace Go.Proofs.YtfheehlfodoimaaGreat
open Go.RowKit Go.Sort
namespace Hd
open Bit Dsk Ob Dig
set_option linter.unusedVariables false

theorem pview {w : World} {S : Nat → Prop} {A : Option Addr} {n c : Nat} {l : List Pt} (h : Rw.View layP w S (.slice A n c) l) (hp : 0 < l.length) : ∃ b off, A = some ⟨b, off, none⟩ ∧ S b ∧ b < w.heap.size ∧
    ∀ i (hi : i < l.length), w.cell? ⟨b, off + i * 2, none⟩ = some (.int .i64 l[i].1) ∧ w.cell? ⟨b, off + i * 2 + 1, none⟩ = some (.int .u64 (l[i].2 : Int)) := by
  obtain ⟨b, off, h1, h2, h3, h4⟩ := Rw.View.open h hp
  exact ⟨b, off, h1, h2, h3, fun i hi => ⟨h4 i hi 0 _ rfl, h4 i hi 1 _ rfl⟩⟩
theorem pview_one (w : World) (t : Int) (q : Nat) : Rw.View layP (w.alloc (.cells #[.int .i64 t, .int .u64 (q : Int)] 81 (0, 0))) All (.slice (some ⟨w.heap.size, 0, none⟩) 1 1) [(t, q)] := by
  have h := cell_new w (.cells #[.int .i64 t, .int .u64 (q : Int)] 81 (0, 0))
  refine ⟨_, 1, rfl, Nat.le_refl _, by unfold maxLen; decide, fun _ => ⟨w.heap.size, 0, rfl, trivial, fun i hi t' u hu => ?_⟩⟩
  have : i = 0 := by simpa using hi
  subst this
  match t', hu with
  | 0, hu => obtain rfl : Value.int .i64 t = u := by simpa [layP] using hu
             rw [Lib.cell_of_heap h]; rfl
  | 1, hu => obtain rfl : Value.int .u64 (q : Int) = u := by simpa [layP] using hu
             rw [Lib.cell_of_heap h]; rfl
  | k + 2, hu => simp [layP] at hu
/-- A row of the call's own, since w0. -/
def OwnP (w0 w : World) (u : Value) (l : List Pt) : Prop := PMine w u l ∧ (∀ g, u.ownBlock = some g → w0.heap.size ≤ g) ∧ New0 w0 w
theorem OwnP.step {w0 w w' : World} {u : Value} {l : List Pt} (h : OwnP w0 w u l) (hu : New0 w w') : OwnP w0 w' u l := ⟨h.1.new hu, h.2.1, h.2.2.trans hu⟩
theorem OwnP.app {w0 w w' : World} {u u' : Value} {l m : List Pt} (h : OwnP w0 w u l) (hown : PMine w' u' m) (hg : w.grownBy w' u.ownBlock) (hb : u'.ownBlock = u.ownBlock ∨ u'.ownBlock = some w.heap.size) : OwnP w0 w' u' m :=
  ⟨hown, fun g hk => by
    rw [hk] at hb
    rcases hb with hb | hb
    · exact h.2.1 g hb.symm
    · have : g = w.heap.size := by simpa using hb
      have := h.2.2.size
      omega, Rw.grown_new (v' := u') hg (fun g hk => h.2.1 g hk) w0 (Nat.le_refl _) h.2.2⟩
theorem within_take (l : List Pt) (a b : Int) {j : Nat} (hj : j < l.length) : within (l.take (j + 1)) a b = within (l.take j) a b ++ (if (decide (a ≤ l[j].1) && decide (l[j].1 ≤ b)) = true then [l[j]] else []) := by
  rw [List.take_succ_eq_append_getElem hj, within, List.filter_append, within]
  congr 1
  rw [List.filter_cons, List.filter_nil]
theorem within_le (l : List Pt) (a b : Int) (j : Nat) : (within (l.take j) a b).length ≤ l.length := Nat.le_trans (List.length_filter_le _ _) (by rw [List.length_take]; omega)
set_option maxHeartbeats 1600000 in
theorem within_any (w : World) (S : Nat → Prop) (v : Value) (l : List Pt) (a b : Int) (hv : Rw.View layP w S v l) (hlen : l.length ≤ 1000000000) :
    Calls Tryz.prog 52 #[v, .int .i64 a, .int .i64 b] w fun e w' => ∃ u, e = .returned u ∧ OwnP w w' u (within l a b) := by
  obtain ⟨A, c, rfl, -, -⟩ := Rw.View.shape hv
  replace hv := Lib.hid hv
  go_enter Tryz.func52, Tryz.ntmps52
  go_wp2_with fail
  go_loopw [7, 8] (fun u ov wr => ∃ (j : Nat) (m : List Pt), ov = .int .i64 (j : Int) ∧ j ≤ l.length ∧ Hid (within (l.take j) a b = m) ∧ Hid (OwnP w wr u m)) (fun _ ov _ => l.length - (intOf ov).toNat)
  case atStart => exact ⟨0, [], rfl, Nat.zero_le _, Lib.hid (by simp [within]), Lib.hid ⟨Rw.Mine.nil _ _ _, fun g hg => (by cases hg), Upon.refl _ _⟩⟩
  case round =>
    obtain ⟨j, m, rfl, hj, hm, ho⟩ := hrel
    obtain ⟨A7, c7, hu7, -, -⟩ := Rw.View.shape ho.out.1.view
    subst hu7
    by_cases hlt : j < l.length
    · obtain ⟨g, off, rfl, -, -, hc⟩ := pview hv.out (by omega)
      obtain ⟨x0, x1⟩ := hc j hlt
      replace x0 := Lb.New0.cells ho.out.2.2 x0
      replace x1 := Lb.New0.cells ho.out.2.2 x1
      have hst := within_take l a b hlt
      have hle := within_le l a b j
      obtain ⟨⟨t, q⟩, hp⟩ : ∃ p, l[j] = p := ⟨_, rfl⟩
      rw [hp] at x0 x1 hst
      simp only at x0 x1 hst
      rw [hm.out] at hst hle
      clear hc hp hm
      by_cases h1 : a ≤ t
      · by_cases h2 : t ≤ b
        · rw [if_pos (by simp [h1, h2])] at hst
          have d1 : decide (a ≤ t) = true := decide_eq_true h1
          have d2 : decide (t ≤ b) = true := decide_eq_true h2
          replace hst := Lib.hid hst
          have hX := Lib.hid (pview_one wr t q)
          have hM := Lib.hid (ho.out.1.new ((Upon.refl _ wr).alloc (.cells #[.int .i64 t, .int .u64 (q : Int)] 81 (0, 0))))
          have hO := Lib.hid (ho.out.step ((Upon.refl _ wr).alloc (.cells #[.int .i64 t, .int .u64 (q : Int)] 81 (0, 0))))
          clear ho
          go_wp2_with (at_builtin; refine Rw.wpList_append typP rfl _ _ rfl _ _ m [(t, q)] All rfl rfl hM.out hX.out (by rw [List.length_singleton]; omega) (by rw [List.length_singleton]; omega) ?_)
          intro v' w6 hown hgr hbl
          have h6 := Lib.hid (hO.out.app hown hgr (hbl.imp id fun h => h.trans (by simp)))
          clear hM hO hX hown hgr hbl
          go_wp2_with fail
          go_roundw
          case rel => exact ⟨j + 1, _, by go_num, hlt, hst, h6⟩
          case measure => simp [intOf]; omega
        · rw [if_neg (by simp [h2])] at hst
          have d1 : decide (a ≤ t) = true := decide_eq_true h1
          have d2 : decide (t ≤ b) = false := decide_eq_false h2
          rw [List.append_nil] at hst
          replace hst := Lib.hid hst
          go_wp2_with fail
          go_roundw
          case rel => exact ⟨j + 1, m, by go_num, hlt, hst, ho⟩
          case measure => simp [intOf]; omega
      · rw [if_neg (by simp [h1])] at hst
        have d1 : decide (a ≤ t) = false := decide_eq_false h1
        rw [List.append_nil] at hst
        replace hst := Lib.hid hst
        go_wp2_with fail
        go_roundw
        case rel => exact ⟨j + 1, m, by go_num, hlt, hst, ho⟩
        case measure => simp [intOf]; omega
    · have hje : j = l.length := by omega
      have hR : Hid (OwnP w wr (.slice A7 m.length c7) (within l a b)) := Lib.hid (by
        have := ho.out
        rwa [← show within l a b = m by rw [← hm.out, hje, List.take_length]] at this ⊢)
      clear ho hje hm
      go_wp2_with fail
      go_ret
      exact ⟨_, rfl, hR.out⟩
theorem without_take (l : List Pt) (a b : Int) {j : Nat} (hj : j < l.length) : without (l.take (j + 1)) a b = without (l.take j) a b ++ (if (decide (l[j].1 < a) || decide (b < l[j].1)) = true then [l[j]] else []) := by
  rw [List.take_succ_eq_append_getElem hj, without, List.filter_append, without]
  congr 1
  rw [List.filter_cons, List.filter_nil]
theorem without_le (l : List Pt) (a b : Int) (j : Nat) : (without (l.take j) a b).length ≤ l.length := Nat.le_trans (List.length_filter_le _ _) (by rw [List.length_take]; omega)
set_option maxHeartbeats 1600000 in
theorem without_any (w : World) (S : Nat → Prop) (v : Value) (l : List Pt) (a b : Int) (hv : Rw.View layP w S v l) (hlen : l.length ≤ 1000000000) :
    Calls Tryz.prog 22 #[v, .int .i64 a, .int .i64 b] w fun e w' => ∃ u, e = .returned u ∧ OwnP w w' u (without l a b) := by
  obtain ⟨A, c, rfl, -, -⟩ := Rw.View.shape hv
  replace hv := Lib.hid hv
  go_enter Tryz.func22, Tryz.ntmps22
  go_wp2_with fail
  go_loopw [7, 8] (fun u ov wr => ∃ (j : Nat) (m : List Pt), ov = .int .i64 (j : Int) ∧ j ≤ l.length ∧ Hid (without (l.take j) a b = m) ∧ Hid (OwnP w wr u m)) (fun _ ov _ => l.length - (intOf ov).toNat)
  case atStart => exact ⟨0, [], rfl, Nat.zero_le _, Lib.hid (by simp [without]), Lib.hid ⟨Rw.Mine.nil _ _ _, fun g hg => (by cases hg), Upon.refl _ _⟩⟩
  case round =>
    obtain ⟨j, m, rfl, hj, hm, ho⟩ := hrel
    obtain ⟨A7, c7, hu7, -, -⟩ := Rw.View.shape ho.out.1.view
    subst hu7
    by_cases hlt : j < l.length
    · obtain ⟨g, off, rfl, -, -, hc⟩ := pview hv.out (by omega)
      obtain ⟨x0, x1⟩ := hc j hlt
      replace x0 := Lb.New0.cells ho.out.2.2 x0
      replace x1 := Lb.New0.cells ho.out.2.2 x1
      have hst := without_take l a b hlt
      have hle := without_le l a b j
      obtain ⟨⟨t, q⟩, hp⟩ : ∃ p, l[j] = p := ⟨_, rfl⟩
      rw [hp] at x0 x1 hst
      simp only at x0 x1 hst
      rw [hm.out] at hst hle
      clear hc hp hm
      by_cases h1 : t < a
      · rw [if_pos (by simp [h1])] at hst
        have d1 : decide (t < a) = true := decide_eq_true h1
        replace hst := Lib.hid hst
        have hX := Lib.hid (pview_one wr t q)
        have hM := Lib.hid (ho.out.1.new ((Upon.refl _ wr).alloc (.cells #[.int .i64 t, .int .u64 (q : Int)] 81 (0, 0))))
        have hO := Lib.hid (ho.out.step ((Upon.refl _ wr).alloc (.cells #[.int .i64 t, .int .u64 (q : Int)] 81 (0, 0))))
        clear ho
        go_wp2_with (at_builtin; refine Rw.wpList_append typP rfl _ _ rfl _ _ m [(t, q)] All rfl rfl hM.out hX.out (by rw [List.length_singleton]; omega) (by rw [List.length_singleton]; omega) ?_)
        intro v' w6 hown hgr hbl
        have h6 := Lib.hid (hO.out.app hown hgr (hbl.imp id fun h => h.trans (by simp)))
        clear hM hO hX hown hgr hbl
        go_wp2_with fail
        go_roundw
        case rel => exact ⟨j + 1, _, by go_num, hlt, hst, h6⟩
        case measure => simp [intOf]; omega
      · have d1 : decide (t < a) = false := decide_eq_false h1
        by_cases h2 : b < t
        · rw [if_pos (by simp [h2])] at hst
          have d2 : decide (b < t) = true := decide_eq_true h2
          replace hst := Lib.hid hst
          have hX := Lib.hid (pview_one wr t q)
          have hM := Lib.hid (ho.out.1.new ((Upon.refl _ wr).alloc (.cells #[.int .i64 t, .int .u64 (q : Int)] 81 (0, 0))))
          have hO := Lib.hid (ho.out.step ((Upon.refl _ wr).alloc (.cells #[.int .i64 t, .int .u64 (q : Int)] 81 (0, 0))))
          clear ho
          go_wp2_with (at_builtin; refine Rw.wpList_append typP rfl _ _ rfl _ _ m [(t, q)] All rfl rfl hM.out hX.out (by rw [List.length_singleton]; omega) (by rw [List.length_singleton]; omega) ?_)
          intro v' w6 hown hgr hbl
          have h6 := Lib.hid (hO.out.app hown hgr (hbl.imp id fun h => h.trans (by simp)))
          clear hM hO hX hown hgr hbl
          go_wp2_with fail
          go_roundw
          case rel => exact ⟨j + 1, _, by go_num, hlt, hst, h6⟩
          case measure => simp [intOf]; omega
        · rw [if_neg (by simp [h1, h2])] at hst
          have d2 : decide (b < t) = false := decide_eq_false h2
          rw [List.append_nil] at hst
          replace hst := Lib.hid hst
          go_wp2_with fail
          go_roundw
          case rel => exact ⟨j + 1, m, by go_num, hlt, hst, ho⟩
          case measure => simp [intOf]; omega
    · have hje : j = l.length := by omega
      have hR : Hid (OwnP w wr (.slice A7 m.length c7) (without l a b)) := Lib.hid (by
        have := ho.out
        rwa [← show without l a b = m by rw [← hm.out, hje, List.take_length]] at this ⊢)
      clear ho hje hm
      go_wp2_with fail
      go_ret
      exact ⟨_, rfl, hR.out⟩
end Hd
end Go.Proofs.YtfheehlfodoimaaGreat
end

/- The document's head (layer 13): Query. -/
section
set_option maxRecDepth 100000
namespace Go.Proofs.YtfheehlfodoimaaGreat
open Go.RowKit Go.Sort
namespace Hd
open Bit Dsk Ob Dig
set_option linter.unusedVariables false

/-- A series' cells. -/
abbrev RQ := Rw.Sl × Rw.Sl
def layQ : Rw.Lay RQ := ⟨2, by decide, fun x => [x.1.v, x.2.v], fun _ => rfl, fun x u hu => by
  simp only [List.mem_cons, List.not_mem_nil, or_false] at hu
  rcases hu with rfl | rfl <;> rfl⟩
def innQ : Rw.Inner RQ Ser where
  rel w S a b := Lb.View w S a.1.v b.1 ∧ Rw.View layP w S a.2.v b.2
  upon h hu hd := ⟨Rw.View.upon h.1 hu hd, Rw.View.upon h.2 hu hd⟩
  mono h hS := ⟨Rw.View.mono h.1 hS, Rw.View.mono h.2 hS⟩
theorem typQ : Rw.Typ layQ 69 93 48 := Rw.Typ.mk' (z := .agg #[.slice none 0 0, .slice none 0 0]) Tryz.underlying69 (by kernel_rfl) rfl
abbrev QView := Rw.DView layQ innQ
abbrev QOwn := Rw.DOwn layQ innQ 93
theorem qview_one (w : World) (a b : Rw.Sl) : Rw.View layQ (w.alloc (.cells #[.slice a.a a.n a.c, .slice b.a b.n b.c] 93 (0, 0))) All (.slice (some ⟨w.heap.size, 0, none⟩) 1 1) [(a, b)] := by
  have h := cell_new w (.cells #[.slice a.a a.n a.c, .slice b.a b.n b.c] 93 (0, 0))
  refine ⟨_, 1, rfl, Nat.le_refl _, by unfold maxLen; decide, fun _ => ⟨w.heap.size, 0, rfl, trivial, fun i hi t' u hu => ?_⟩⟩
  have : i = 0 := by simpa using hi
  subst this
  match t', hu with
  | 0, hu => obtain rfl : a.v = u := by simpa [layQ] using hu
             rw [Lib.cell_of_heap h]; rfl
  | 1, hu => obtain rfl : b.v = u := by simpa [layQ] using hu
             rw [Lib.cell_of_heap h]; rfl
  | k + 2, hu => simp [layQ] at hu
/-- Not too many rows, points, labels. -/
structure Sane (h : H) : Prop where
  len : h.length ≤ 1000000000
  pts : ∀ r ∈ h, r.pts.length ≤ 1000000000
  lab : ∀ r ∈ h, r.lab.length ≤ 1000000000
theorem query_take (h : H) (ms : List Mt.M) (a b : Int) {j : Nat} (hj : j < h.length) : query (h.take (j + 1)) ms a b = query (h.take j) ms a b ++ ask1 ms a b h[j] := by
  rw [List.take_succ_eq_append_getElem hj, query, List.flatMap_append, query]
  simp
theorem query_len (h : H) (ms : List Mt.M) (a b : Int) : (query h ms a b).length ≤ h.length := by
  induction h with
  | nil => simp [query]
  | cons r h ih =>
    have : (ask1 ms a b r).length ≤ 1 := by unfold ask1; split <;> simp
    rw [query, List.flatMap_cons, List.length_append, List.length_cons]
    have e : (List.flatMap (ask1 ms a b) h).length ≤ h.length := ih
    omega
set_option maxHeartbeats 6400000 in
theorem query_any (w : World) {A R : Nat → Prop} {p : Nat} {u : Rw.Sl} {rs : List RR} {h : H} (hh : HeadR w A R p u rs h) (hsane : Sane h) (S : Nat → Prop) (v : Value) (ms : List Mt.M) (hv : Mt.View w S v ms) (hb : Mt.Bnd ms) (a b : Int) :
    Calls Tryz.prog 33 #[.pointer (some ⟨p, 0, none⟩), v, .int .i64 a, .int .i64 b] w fun e w' => ∃ u rs, e = .returned u ∧ QOwn w w' u rs (query h ms a b) := by
  have hfew := hh.few
  have hun := hh.len
  have hF := Lib.hid (fun w' (hu : New0 w w') => hh.new hu)
  have hB := Lib.hid (fun w' (hu : New0 w w') => (hh.new hu).box0)
  have HI := Lib.hid (fun w' (hu : New0 w w') T x l (hx : Lb.View w' T x l) => Mt.refis_any w' S T v x ms l (Rw.View.new hv hu) hb hx)
  obtain ⟨A1, c1, rfl, -, -⟩ := Rw.View.shape hv
  obtain ⟨ua, un, uc⟩ := u
  simp only at hun hB
  subst hun
  replace hsane := Lib.hid hsane
  clear hh hv hb
  go_enter Tryz.func33, Tryz.ntmps33
  go_wp2_with fail
  go_loopw [9, 10] (fun qv ov wr => ∃ (j : Nat) (q : List Ser) (qs : List RQ), ov = .int .i64 (j : Int) ∧ j ≤ h.length ∧ Hid (query (h.take j) ms a b = q) ∧ Hid (QOwn w wr qv qs q)) (fun _ ov _ => h.length - (intOf ov).toNat)
  case atStart => exact ⟨0, [], [], rfl, Nat.zero_le _, Lib.hid (by simp [query]), Lib.hid (Rw.DOwn.start _ _ _ (Upon.refl _ _))⟩
  case round =>
    obtain ⟨j, q, qs, rfl, hj, hq, ho⟩ := hrel
    have b0 := hB.out _ ho.out.new
    obtain ⟨Aq, cq, hqv, -, -⟩ := Rw.View.shape ho.out.row.view
    subst hqv
    by_cases hlt : j < h.length
    · obtain ⟨g, c, r, hu, -, -, x0, x1, -, hlv, hpm, -⟩ := (hF.out _ ho.out.new).at hlt
      injection hu with e1 e2 e3
      subst e1 e3
      have hst := query_take h ms a b hlt
      have hql := query_len (h.take j) ms a b
      rw [hq.out] at hst hql
      rw [List.length_take] at hql
      have hhl := hsane.out.len
      have hpl := hsane.out.pts _ (List.getElem_mem hlt)
      have hll := hsane.out.lab _ (List.getElem_mem hlt)
      have hqs := ho.out.len
      have hqs2 : qs.length ≤ 1000000000 := by omega
      have HW := Lib.hid (within_any wr _ _ _ a b hpm.view hpl)
      have hn0 := ho.out.new
      have hC := Lib.hid (fun w' (hu : New0 wr w') => And.intro (hB.out _ (hn0.trans hu)) (Lb.New0.cells hu x0))
      have HI1 := Lib.hid (fun w' (hu : New0 wr w') => HI.out w' (hn0.trans hu) _ _ _ (Rw.View.new hlv hu))
      have hLv := Lib.hid (fun w' (hu : New0 wr w') => Rw.View.new hlv hu)
      obtain ⟨⟨rl, rp, rt⟩, hr⟩ : ∃ x, h[j] = x := ⟨_, rfl⟩
      rw [hr] at hst HW hLv hll
      simp only at HW hLv hll
      have HI2 := Lib.hid (fun w' (hu : New0 wr w') => by have := HI1.out w' hu; rw [hr] at this; exact this)
      obtain ⟨m, hm⟩ : ∃ m, within rp a b = m := ⟨_, rfl⟩
      rw [hm] at HW
      have hlq := fun x (hx : (Value.slice Aq qs.length cq).ownBlock = some x) => Rw.Mine.lt ho.out.row hx
      replace hlq := Lib.hid hlq
      clear hpm hlv HI1 hr hqs hql hhl hpl hn0
      go_wp2_with fail
      refine HW.out.mono ?_
      rintro e w2 ⟨pu, rfl, hpo⟩
      obtain ⟨Ap, cp, hpv, -, -⟩ := Rw.View.shape hpo.1.view
      subst hpv
      obtain ⟨b2, y0⟩ := hC.out _ hpo.2.2
      clear HW
      by_cases hme : m.length = 0
      · have hst2 : Hid (query (h.take (j + 1)) ms a b = q) := Lib.hid (by rw [hst, ask1, hm, if_neg (by rw [List.eq_nil_of_length_eq_zero hme]; simp), List.append_nil])
        have ho2 := Lib.hid (ho.out.step hpo.2.2)
        rw [hme]
        clear hst hpo HI2 hLv hC ho hm hq
        go_wp2_with fail
        go_roundw
        case rel => exact ⟨j + 1, q, qs, by go_num, hlt, hst2, ho2⟩
        case measure => simp [intOf]; omega
      · have hm1 : 0 < m.length := by omega
        have hmd : decide (0 < (m.length : Int)) = true := decide_eq_true (by omega)
        have HI3 := Lib.hid (HI2.out _ hpo.2.2)
        have hpo' := Lib.hid hpo
        have ho2 := Lib.hid (ho.out.step hpo.2.2)
        cases hi : Mt.is ms rl with
        | false =>
          have hst2 : Hid (query (h.take (j + 1)) ms a b = q) := Lib.hid (by rw [hst, ask1, if_neg (by simp [hi]), List.append_nil])
          simp only [hi] at HI3
          clear hst hpo HI2 hLv hC ho hm hi hq hpo'
          go_wp2_with fail
          refine HI3.out.mono ?_
          rintro e w3 ⟨rfl, hu3⟩
          have ho3 := Lib.hid (ho2.out.step hu3)
          clear HI3 ho2 hu3
          go_wp2_with fail
          go_roundw
          case rel => exact ⟨j + 1, q, qs, by go_num, hlt, hst2, ho3⟩
          case measure => simp [intOf]; omega
        | true =>
          have hst2 : Hid (query (h.take (j + 1)) ms a b = q ++ [(rl, m)]) := Lib.hid (by
            rw [hst, ask1]
            simp only [hi, hm]
            rw [if_pos ⟨fun e => by rw [e] at hm1; simp at hm1, trivial⟩])
          simp only [hi] at HI3
          clear hst HI2 hm hi hq hpo
          go_wp2_with fail
          refine HI3.out.mono ?_
          rintro e w3 ⟨rfl, hu3⟩
          obtain ⟨b3, y3⟩ := hC.out _ (hpo'.out.2.2.trans hu3)
          have hp3 := Lib.hid (hpo'.out.step hu3)
          have ho3 := Lib.hid (ho2.out.step hu3)
          clear HI3 ho2 hu3 hpo' b2 y0
          have q1 := hp3.out.2.2.size
          have q0 := ho3.out.new.size
          have uA := (Upon.refl (fun _ => False) w3).alloc (.cells #[] 72 (0, 0))
          obtain ⟨bA, yA⟩ := hC.out _ (hp3.out.2.2.trans uA)
          have hme := Lib.hid (Rw.Mine.empty Lb.layPr (T := 72) (cell_new w3 (.cells #[] 72 (0, 0))))
          have hlA := Lib.hid (hLv.out _ (hp3.out.2.2.trans uA))
          clear hC hLv
          go_wp2_with (at_builtin; refine Rw.wpList_append Lb.typPr rfl _ _ rfl _ _ [] rl R rfl rfl hme.out hlA.out (by rw [List.length_nil]; omega) (by rw [List.length_nil]; omega) ?_)
          intro v5 w5 hown hgr hbl
          replace hown : Rw.Mine Lb.layPr 72 w5 v5 rl := hown
          obtain ⟨A5, c5, rfl, -, -⟩ := Rw.View.shape hown.view
          have hg0 : (Value.slice (some ⟨w3.heap.size, 0, none⟩) 0 0).ownBlock = some w3.heap.size := rfl
          rw [hg0] at hgr hbl
          have hu5 : New0 w3 w5 := Upon.grown uA hgr (fun k hk => .inr (by injection hk with hk; omega))
          have hbk : ∀ x, (Value.slice A5 rl.length c5).ownBlock = some x → w3.heap.size ≤ x := fun x hx => by
            rcases hbl with h9 | h9 <;> rw [hx] at h9 <;> injection h9 with h9
            · omega
            · rw [h9]; simp
          have u6 := (Upon.refl (fun _ => False) w5).alloc (.cells #[.slice A5 rl.length c5, .slice Ap m.length cp] 93 (0, 0))
          have ho6 := Lib.hid (ho3.out.step (hu5.trans u6))
          have hp6 := hp3.out.step (hu5.trans u6)
          have hX6 := Lib.hid (qview_one w5 ⟨A5, rl.length, c5⟩ ⟨Ap, m.length, cp⟩)
          have hM6 := Lib.hid ho6.out.row
          have hrel : Hid (innQ.rel (w5.alloc (.cells #[.slice A5 rl.length c5, .slice Ap m.length cp] 93 (0, 0))) (fun x => (Value.slice A5 rl.length c5).ownBlock = some x ∨ (Value.slice Ap m.length cp).ownBlock = some x) (⟨A5, rl.length, c5⟩, ⟨Ap, m.length, cp⟩) (rl, m)) :=
            Lib.hid ⟨(Rw.View.new hown.view u6).mono fun _ _ hx => .inl hx, (Rw.Mine.view hp6.1).mono fun _ _ hx => .inr hx⟩
          have hS : Hid (∀ x, ((Value.slice A5 rl.length c5).ownBlock = some x ∨ (Value.slice Ap m.length cp).ownBlock = some x) → x < (w5.alloc (.cells #[.slice A5 rl.length c5, .slice Ap m.length cp] 93 (0, 0))).heap.size ∧ w.heap.size ≤ x ∧ (Value.slice Aq qs.length cq).ownBlock ≠ some x) := Lib.hid (fun x hx => by
            have q2 := hu5.size
            have q3 := u6.size
            have q4 := ho.out.new.size
            rcases hx with hx | hx
            · have k1 := hbk x hx
              have k2 := Rw.Mine.lt hown hx
              refine ⟨by omega, by omega, fun e => ?_⟩
              have := hlq.out x e
              omega
            · have k1 := hp6.2.1 x hx
              have k2 := Rw.Mine.lt hp6.1 hx
              refine ⟨k2, by omega, fun e => ?_⟩
              have := hlq.out x e
              omega)
          clear hown hgr hbl hbk hu5 hp6 u6 hme hlA uA hg0 bA yA b3 y3 hp3 ho3
          go_wp2_with (at_builtin; refine Rw.wpList_append typQ rfl _ _ rfl _ _ qs [((⟨A5, rl.length, c5⟩, ⟨Ap, m.length, cp⟩) : RQ)] All rfl rfl hM6.out hX6.out (by rw [List.length_singleton]; omega) (by rw [List.length_singleton]; omega) ?_)
          intro v7 w7 hown7 hgr7 hbl7
          have ho7 := Lib.hid (ho6.out.app hrel.out hS.out hown7 hgr7 (hbl7.imp id fun h => h.trans (by simp)))
          clear hX6 hM6 hrel hS hown7 hgr7 hbl7 ho6
          go_wp2_with fail
          go_roundw
          case rel => exact ⟨j + 1, _, _, by go_num, hlt, hst2, ho7⟩
          case measure => simp [intOf]; omega
    · have hje : j = h.length := by omega
      have hR : Hid (QOwn w wr (.slice Aq qs.length cq) qs (query h ms a b)) := Lib.hid (by
        have := ho.out
        rwa [← show query h ms a b = q by rw [← hq.out, hje, List.take_length]] at this)
      clear ho hje hq
      go_wp2_with fail
      go_ret
      exact ⟨_, qs, rfl, hR.out⟩
end Hd
end Go.Proofs.YtfheehlfodoimaaGreat
end

/- The document's head (layer 13): Same, of two lists of series. -/
section
set_option maxRecDepth 100000
namespace Go.Proofs.YtfheehlfodoimaaGreat
open Go.RowKit Go.Sort
namespace Hd
open Bit Dsk Ob Dig
set_option linter.unusedVariables false

set_option maxHeartbeats 3200000 in
theorem psame_any (w : World) (S S' : Nat → Prop) (v1 v2 : Value) (l m : List Pt) (h1 : Rw.View layP w S v1 l) (h2 : Rw.View layP w S' v2 m) :
    Calls Tryz.prog 47 #[v1, v2] w fun e w' => e = .returned (.bool (decide (l = m))) ∧ ∃ n, w' = w.drewN n := by
  obtain ⟨A, c, rfl, hc1, hc2⟩ := Rw.View.shape h1
  obtain ⟨A', c', rfl, hc1', hc2'⟩ := Rw.View.shape h2
  have hA := fun hp => pview h1 hp
  have hA' := fun hp => pview h2 hp
  have hl := Nat.le_trans hc1 hc2
  have hl' := Nat.le_trans hc1' hc2'
  clear hc1 hc2 hc1' hc2'
  unfold maxLen at hl hl'
  by_cases hlen : l.length = m.length
  · have hd : ((l.length : Int) != (m.length : Int)) = false := by rw [hlen]; simp
    replace hA := Lib.hid hA
    replace hA' := Lib.hid hA'
    have hlen2 := Lib.hid hlen
    clear hlen
    go_enter Tryz.func47, Tryz.ntmps47
    go_wp2_with fail
    go_loopw [5] (fun ov wr => ∃ j k : Nat, ov = .int .i64 (j : Int) ∧ j ≤ l.length ∧ Hid (∀ i (h1 : i < l.length) (h2 : i < m.length), i < j → l[i] = m[i]) ∧ wr = w.drewN k) (fun ov _ => l.length - (intOf ov).toNat)
    case atStart => exact ⟨0, 0, rfl, Nat.zero_le _, Lib.hid (fun i _ _ h => absurd h (Nat.not_lt_zero i)), rfl⟩
    case round =>
      obtain ⟨j, k, rfl, hj, hall, rfl⟩ := hrel
      by_cases hlt : j < l.length
      · have hlt' : j < m.length := by have := hlen2.out; omega
        obtain ⟨b, off, rfl, -, -, hcells⟩ := hA.out (by omega)
        obtain ⟨b', off', rfl, -, -, hcells'⟩ := hA'.out (by omega)
        obtain ⟨x0, x1⟩ := hcells j hlt
        obtain ⟨y0, y1⟩ := hcells' j hlt'
        clear hcells hcells' hA hA'
        obtain ⟨p, hp⟩ : ∃ p, l[j] = p := ⟨_, rfl⟩
        obtain ⟨q, hq⟩ : ∃ q, m[j] = q := ⟨_, rfl⟩
        rw [hp] at x0 x1
        rw [hq] at y0 y1
        replace hp := Lib.hid hp
        replace hq := Lib.hid hq
        obtain ⟨a1, a2⟩ := p
        obtain ⟨b1, b2⟩ := q
        by_cases e1 : a1 = b1
        · by_cases e2 : a2 = b2
          · subst e1 e2
            have hnx : Hid (∀ i (h1 : i < l.length) (h2 : i < m.length), i < j + 1 → l[i] = m[i]) := Lib.hid fun i g1 g2 g3 => by
              by_cases e : i = j
              · subst e; rw [hp.out, hq.out]
              · exact hall.out i g1 g2 (by omega)
            clear hall hp hq
            go_wp2_with fail
            go_quiet (fail)
            go_wp2_with fail
            go_roundw
            case rel => exact ⟨j + 1, k + nq, by go_num, hlt, hnx, rfl⟩
            case measure => simp [intOf]; omega
          · have hf1 : decide (a2 = b2) = false := decide_eq_false e2
            have hf2 : ((a2 : Int) == (b2 : Int)) = false := by rw [beq_eq_false_iff_ne]; omega
            have hne : Hid (decide (l = m) = false) := Lib.hid (decide_eq_false fun e => by
              subst e
              have h := hp.out.symm.trans hq.out
              injection h with _ h
              exact e2 h)
            subst e1
            clear hall hp hq
            go_wp2_with fail
            go_quiet (fail)
            go_wp2_with fail
            go_ret
            exact ⟨Lb.ret_b hne.out.symm, k + nq, by rw [World.drewN_drewN]⟩
        · have hf1 : decide (a1 = b1) = false := decide_eq_false e1
          have hf2 : (a1 == b1) = false := by rw [beq_eq_false_iff_ne]; exact e1
          have hne : Hid (decide (l = m) = false) := Lib.hid (decide_eq_false fun e => by
            subst e
            have h := hp.out.symm.trans hq.out
            injection h with h _
            exact e1 h)
          clear hall hp hq
          go_wp2_with fail
          go_quiet (fail)
          go_wp2_with fail
          go_ret
          exact ⟨Lb.ret_b hne.out.symm, k + nq, by rw [World.drewN_drewN]⟩
      · have he : Hid (decide (l = m) = true) := Lib.hid (decide_eq_true (List.ext_getElem hlen2.out fun i g1 g2 => hall.out i g1 g2 (by omega)))
        clear hall hA hA'
        go_wp2_with fail
        go_ret
        exact ⟨Lb.ret_b he.out.symm, k, rfl⟩
  · have hd : ((l.length : Int) != (m.length : Int)) = true := by rw [bne_iff_ne]; omega
    have hne : Hid (decide (l = m) = false) := Lib.hid (decide_eq_false fun e => hlen (by rw [e]))
    clear hA hA'
    go_enter Tryz.func47, Tryz.ntmps47
    go_wp2_with fail
    go_ret
    exact ⟨Lb.ret_b hne.out.symm, 0, rfl⟩

theorem pquiet {P : Program} {f : FuncId} {args : Array Value} {w : World} {v : Value} (h : ∀ m, Calls P f args (w.drewN m) fun e w' => e = .returned v ∧ ∃ k, w' = (w.drewN m).drewN k) (n x : Nat) :
    Calls P f args (w.drewN (n + x)) fun e w'' => e = .returned v ∧ ∃ k, w'' = w.drewN (n + k) :=
  (h (n + x)).mono fun _ _ ⟨he, k, hk⟩ => ⟨he, x + k, by rw [hk, World.drewN_drewN, Nat.add_assoc]⟩
theorem qcells {w : World} {S : Nat → Prop} {A : Option Addr} {n c : Nat} {l : List Ser} (h : QView w S (.slice A n c) l) (hp : 0 < l.length) : ∃ b off, A = some ⟨b, off, none⟩ ∧ b < w.heap.size ∧
    ∀ i (hi : i < l.length), ∃ s t : Rw.Sl, Lb.View w S (.slice s.a s.n s.c) l[i].1 ∧ Rw.View layP w S (.slice t.a t.n t.c) l[i].2 ∧ w.cell? ⟨b, off + i * 2, none⟩ = some (.slice s.a s.n s.c) ∧ w.cell? ⟨b, off + i * 2 + 1, none⟩ = some (.slice t.a t.n t.c) := by
  obtain ⟨b, off, h1, h2, h3⟩ := Rw.DView.open h hp
  refine ⟨b, off, h1, h2, fun i hi => ?_⟩
  obtain ⟨⟨s, t⟩, ⟨k1, k2⟩, k4⟩ := h3 i hi
  exact ⟨s, t, k1, k2, k4 0 _ rfl, k4 1 _ rfl⟩
set_option maxHeartbeats 3200000 in
theorem qsame_any (w : World) (S S' : Nat → Prop) (v1 v2 : Value) (l m : List Ser) (h1 : QView w S v1 l) (h2 : QView w S' v2 m) :
    Calls Tryz.prog 31 #[v1, v2] w fun e w' => e = .returned (.bool (decide (l = m))) ∧ ∃ n, w' = w.drewN n := by
  obtain ⟨A, c, rfl, hc1, hc2⟩ := Rw.DView.shape h1
  obtain ⟨A', c', rfl, hc1', hc2'⟩ := Rw.DView.shape h2
  have hA := fun hp => qcells h1 hp
  have hA' := fun hp => qcells h2 hp
  have hl := Nat.le_trans hc1 hc2
  have hl' := Nat.le_trans hc1' hc2'
  clear hc1 hc2 hc1' hc2' h1 h2
  unfold maxLen at hl hl'
  by_cases hlen : l.length = m.length
  · have hd : ((l.length : Int) != (m.length : Int)) = false := by rw [hlen]; simp
    replace hA := Lib.hid hA
    replace hA' := Lib.hid hA'
    have hlen2 := Lib.hid hlen
    clear hlen
    go_enter Tryz.func31, Tryz.ntmps31
    go_wp2_with fail
    go_loopw [5] (fun ov wr => ∃ j k : Nat, ov = .int .i64 (j : Int) ∧ j ≤ l.length ∧ Hid (∀ i (h1 : i < l.length) (h2 : i < m.length), i < j → l[i] = m[i]) ∧ wr = w.drewN k) (fun ov _ => l.length - (intOf ov).toNat)
    case atStart => exact ⟨0, 0, rfl, Nat.zero_le _, Lib.hid (fun i _ _ h => absurd h (Nat.not_lt_zero i)), rfl⟩
    case round =>
      obtain ⟨j, k, rfl, hj, hall, rfl⟩ := hrel
      by_cases hlt : j < l.length
      · have hlt' : j < m.length := by have := hlen2.out; omega
        obtain ⟨b, off, rfl, -, hcells⟩ := hA.out (by omega)
        obtain ⟨b', off', rfl, -, hcells'⟩ := hA'.out (by omega)
        obtain ⟨s, t, hs, ht, x0, x1⟩ := hcells j hlt
        obtain ⟨s', t', hs', ht', y0, y1⟩ := hcells' j hlt'
        have HL := Lib.hid (fun n => Lb.same_any (w.drewN n) S S' _ _ _ _ hs.drew hs'.drew)
        have HP := Lib.hid (fun n => psame_any (w.drewN n) S S' _ _ _ _ ht.drew ht'.drew)
        obtain ⟨e1, he1⟩ : ∃ e1, decide (l[j].1 = m[j].1) = e1 := ⟨_, rfl⟩
        obtain ⟨e2, he2⟩ : ∃ e2, decide (l[j].2 = m[j].2) = e2 := ⟨_, rfl⟩
        rw [he1] at HL
        rw [he2] at HP
        replace he1 := Lib.hid he1
        replace he2 := Lib.hid he2
        clear hcells hcells' hs ht hs' ht' hA hA'
        cases e1 with
        | true =>
          cases e2 with
          | true =>
            have hnx : Hid (∀ i (h1 : i < l.length) (h2 : i < m.length), i < j + 1 → l[i] = m[i]) := Lib.hid fun i g1 g2 g3 => by
              by_cases e : i = j
              · subst e; exact Prod.ext (of_decide_eq_true he1.out) (of_decide_eq_true he2.out)
              · exact hall.out i g1 g2 (by omega)
            clear hall he1 he2
            go_wp2_with fail
            go_quiet (first | (go_at_call 24; exact pquiet HL.out _ _) | (go_at_call 47; exact pquiet HP.out _ _))
            go_wp2_with fail
            go_roundw
            case rel => exact ⟨j + 1, k + nq, by go_num, hlt, hnx, rfl⟩
            case measure => simp [intOf]; omega
          | false =>
            have hne : Hid (false = decide (l = m)) := Lib.hid (decide_eq_false fun e => of_decide_eq_false he2.out (by subst e; rfl)).symm
            clear hall he1 he2
            go_wp2_with fail
            go_quiet (first | (go_at_call 24; exact pquiet HL.out _ _) | (go_at_call 47; exact pquiet HP.out _ _))
            go_wp2_with fail
            go_ret
            exact ⟨Lb.ret_b hne.out, _, by rw [World.drewN_drewN]⟩
        | false =>
          have hne : Hid (false = decide (l = m)) := Lib.hid (decide_eq_false fun e => of_decide_eq_false he1.out (by subst e; rfl)).symm
          clear hall he1 he2
          go_wp2_with fail
          go_quiet (first | (go_at_call 24; exact pquiet HL.out _ _) | (go_at_call 47; exact pquiet HP.out _ _))
          go_wp2_with fail
          go_ret
          exact ⟨Lb.ret_b hne.out, _, by rw [World.drewN_drewN]⟩
      · have he : Hid (true = decide (l = m)) := Lib.hid (decide_eq_true (List.ext_getElem hlen2.out fun i g1 g2 => hall.out i g1 g2 (by omega))).symm
        clear hall hA hA'
        go_wp2_with fail
        go_ret
        exact ⟨Lb.ret_b he.out, k, rfl⟩
  · have hd : ((l.length : Int) != (m.length : Int)) = true := by rw [bne_iff_ne]; omega
    have hne : Hid (false = decide (l = m)) := Lib.hid (decide_eq_false fun e => hlen (by rw [e])).symm
    clear hA hA'
    go_enter Tryz.func31, Tryz.ntmps31
    go_wp2_with fail
    go_ret
    exact ⟨Lb.ret_b hne.out, 0, rfl⟩
end Hd
end Go.Proofs.YtfheehlfodoimaaGreat
end

/- The document's head (layer 13): Copy. -/
section
set_option maxRecDepth 100000
namespace Go.Proofs.YtfheehlfodoimaaGreat
open Go.RowKit Go.Sort
namespace Hd
open Bit Dsk Ob Dig
set_option linter.unusedVariables false

theorem RowsR.mono {w : World} {A A' R R' : Nat → Prop} {rs : List RR} {h : H} (hh : RowsR w A R rs h) (hA : ∀ b, b < w.heap.size → A b → A' b) (hR : ∀ b, b < w.heap.size → R b → R' b) : RowsR w A' R' rs h :=
  ⟨hh.len, fun i k1 k2 => (hh.lab i k1 k2).mono hR, hh.pts, hh.last, fun i k1 b hb => hA b (Rw.Mine.lt (hh.pts i k1 (by have := hh.len; omega)) hb) (hh.own i k1 b hb), hh.apart⟩
theorem RowsR.snoc {w : World} {A R : Nat → Prop} {rs : List RR} {h : H} (hh : RowsR w A R rs h) {r : RR} {x : Row} (h1 : Lb.View w R r.lab.v x.lab) (h2 : PMine w r.pts.v x.pts) (h3 : r.last = x.last) (h4 : ∀ b, r.pts.v.ownBlock = some b → A b)
    (h5 : ∀ b, r.pts.v.ownBlock = some b → ∀ i (k : i < rs.length), rs[i].pts.v.ownBlock ≠ some b) : RowsR w A R (rs ++ [r]) (h ++ [x]) := by
  have hl := hh.len
  have g1 : ∀ i (k1 : i < (rs ++ [r]).length) (k2 : i < (h ++ [x]).length), (∃ k1' : i < rs.length, ∃ k2' : i < h.length, (rs ++ [r])[i] = rs[i] ∧ (h ++ [x])[i] = h[i]) ∨ ((rs ++ [r])[i] = r ∧ (h ++ [x])[i] = x ∧ i = rs.length) := fun i k1 k2 => by
    by_cases hi : i < rs.length
    · exact .inl ⟨hi, by omega, List.getElem_append_left hi, List.getElem_append_left (by omega)⟩
    · have e : i = rs.length := by rw [List.length_append, List.length_singleton] at k1; omega
      have e2 : i = h.length := by omega
      refine .inr ⟨?_, ?_, e⟩
      · subst e; simp
      · have : (h ++ [x])[h.length]'(by simp) = x := by simp
        simp only [e2]; exact this
  refine ⟨by simp [hl], fun i k1 k2 => ?_, fun i k1 k2 => ?_, fun i k1 k2 => ?_, fun i k1 b hb => ?_, fun i j k1 k2 b hij hb he => ?_⟩
  · rcases g1 i k1 k2 with ⟨a, b, e1, e2⟩ | ⟨e1, e2, -⟩
    · rw [e1, e2]; exact hh.lab i a b
    · rw [e1, e2]; exact h1
  · rcases g1 i k1 k2 with ⟨a, b, e1, e2⟩ | ⟨e1, e2, -⟩
    · rw [e1, e2]; exact hh.pts i a b
    · rw [e1, e2]; exact h2
  · rcases g1 i k1 k2 with ⟨a, b, e1, e2⟩ | ⟨e1, e2, -⟩
    · rw [e1, e2]; exact hh.last i a b
    · rw [e1, e2]; exact h3
  · rcases g1 i k1 (by simp at k1 ⊢; omega) with ⟨a, _, e1, _⟩ | ⟨e1, _, -⟩
    · rw [e1] at hb; exact hh.own i a b hb
    · rw [e1] at hb; exact h4 b hb
  · rcases g1 i k1 (by simp at k1 ⊢; omega) with ⟨a, _, e1, _⟩ | ⟨e1, _, e⟩ <;> rcases g1 j k2 (by simp at k2 ⊢; omega) with ⟨a', _, e1', _⟩ | ⟨e1', _, e'⟩
    · rw [e1] at hb; rw [e1'] at he; exact hh.apart i j a a' b hij hb he
    · rw [e1] at hb; rw [e1'] at he; exact h5 b he i a hb
    · rw [e1] at hb; rw [e1'] at he; exact h5 b hb j a' he
    · omega
/-- A row's cells, laid. -/
theorem rview_one (w : World) (r : RR) : Rw.View layR (w.alloc (.cells #[.slice r.lab.a r.lab.n r.lab.c, .slice r.pts.a r.pts.n r.pts.c, .int .i64 r.last] 59 (0, 0))) All (.slice (some ⟨w.heap.size, 0, none⟩) 1 1) [r] := by
  have h := cell_new w (.cells #[.slice r.lab.a r.lab.n r.lab.c, .slice r.pts.a r.pts.n r.pts.c, .int .i64 r.last] 59 (0, 0))
  refine ⟨_, 1, rfl, Nat.le_refl _, by unfold maxLen; decide, fun _ => ⟨w.heap.size, 0, rfl, trivial, fun i hi t' u hu => ?_⟩⟩
  have : i = 0 := by simpa using hi
  subst this
  match t', hu with
  | 0, hu => obtain rfl : r.lab.v = u := by simpa [layR] using hu
             rw [Lib.cell_of_heap h]; rfl
  | 1, hu => obtain rfl : r.pts.v = u := by simpa [layR] using hu
             rw [Lib.cell_of_heap h]; rfl
  | 2, hu => obtain rfl : Value.int .i64 r.last = u := by simpa [layR] using hu
             rw [Lib.cell_of_heap h]; rfl
  | k + 3, hu => simp [layR] at hu
/-- How far Copy is: the copy's rows so far, all new but the labels. -/
structure Cp (w0 w : World) (R : Nat → Prop) (u : Value) (rs : List RR) (h : H) : Prop where
  row : RMine w u rs
  base : ∀ b, u.ownBlock = some b → w0.heap.size ≤ b
  rows : RowsR w (fun b => w0.heap.size ≤ b ∧ u.ownBlock ≠ some b) R rs h
  new : New0 w0 w
theorem Cp.step {w0 w w' : World} {R : Nat → Prop} {u : Value} {rs : List RR} {h : H} (hh : Cp w0 w R u rs h) (hu : New0 w w') : Cp w0 w' R u rs h :=
  ⟨hh.row.new hu, hh.base, hh.rows.upon hu (fun _ _ f => f) (fun _ _ f => f), hh.new.trans hu⟩
theorem Cp.app {w0 w w' : World} {R : Nat → Prop} {u u' : Value} {rs : List RR} {h : H} (hh : Cp w0 w R u rs h) (hR : ∀ b, R b → b < w0.heap.size) {r : RR} {x : Row} (h1 : Lb.View w R r.lab.v x.lab) (h2 : PMine w r.pts.v x.pts) (h3 : r.last = x.last)
    (h4 : ∀ b, r.pts.v.ownBlock = some b → w0.heap.size ≤ b ∧ u.ownBlock ≠ some b ∧ ∀ i (k : i < rs.length), rs[i].pts.v.ownBlock ≠ some b)
    (hown : RMine w' u' (rs ++ [r])) (hg : w.grownBy w' u.ownBlock) (hb : u'.ownBlock = u.ownBlock ∨ u'.ownBlock = some w.heap.size) : Cp w0 w' R u' (rs ++ [r]) (h ++ [x]) := by
  have hu : Upon (fun y => u.ownBlock = some y) w w' := Upon.grown (Upon.refl _ w) hg (fun k hk => .inl hk)
  have hr := hh.rows.snoc h1 h2 h3 (fun b hb => ⟨(h4 b hb).1, (h4 b hb).2.1⟩) (fun b hb => (h4 b hb).2.2)
  have hlt : ∀ i (k : i < (rs ++ [r]).length) b, (rs ++ [r])[i].pts.v.ownBlock = some b → b < w.heap.size := fun i k b hb => Rw.Mine.lt (hr.pts i k (by rw [← hr.len]; exact k)) hb
  have hr2 := hr.upon hu (fun b hb e => hb.2 e) (fun b hb e => by have := hR b hb; have := hh.base b e; omega)
  refine ⟨hown, fun b hk => ?_, ⟨hr2.len, hr2.lab, hr2.pts, hr2.last, fun i k b hk => ⟨(hr2.own i k b hk).1, fun e => ?_⟩, hr2.apart⟩, Rw.grown_new (v' := u') hg (fun g hk => hh.base g hk) w0 (Nat.le_refl _) hh.new⟩
  · rcases hb with hb | hb
    · exact hh.base b (hb.symm.trans hk)
    · rw [hb] at hk
      injection hk with hk
      have := hh.new.size
      omega
  · rcases hb with hb | hb
    · exact (hr2.own i k b hk).2 (hb.symm.trans e)
    · rw [hb] at e
      injection e with e
      have := hlt i k b hk
      omega
set_option maxHeartbeats 6400000 in
theorem copy_any (w : World) {A R : Nat → Prop} {p : Nat} {u : Rw.Sl} {rs : List RR} {h : H} (hh : HeadR w A R p u rs h) (hsane : Sane h) :
    Calls Tryz.prog 17 #[.pointer (some ⟨p, 0, none⟩)] w fun e w' => ∃ q A' u' rs', e = .returned (.pointer (some ⟨q, 0, none⟩)) ∧ HeadR w' A' R q u' rs' h ∧ (∀ b, A' b → w.heap.size ≤ b) ∧ New0 w w' := by
  have hfew := hh.few
  have hun := hh.len
  have hF := Lib.hid (fun w' (hu : New0 w w') => hh.new hu)
  have hB := Lib.hid (fun w' (hu : New0 w w') => (hh.new hu).box0)
  have hRl := Lib.hid (fun b hb => hh.lt b (.inr hb))
  obtain ⟨ua, un, uc⟩ := u
  simp only at hun hB
  subst hun
  replace hsane := Lib.hid hsane
  clear hh
  go_enter Tryz.func17, Tryz.ntmps17
  go_wp2_with fail
  go_loopw [3, 4] (fun qv ov wr => ∃ (j : Nat) (qs : List RR), ov = .int .i64 (j : Int) ∧ j ≤ h.length ∧ Hid (Cp w wr R qv qs (h.take j))) (fun _ ov _ => h.length - (intOf ov).toNat)
  case atStart => exact ⟨0, [], rfl, Nat.zero_le _, Lib.hid ⟨Rw.Mine.nil _ _ _, fun b hb => (by cases hb), ⟨rfl, fun i k => absurd k (by simp), fun i k => absurd k (by simp), fun i k => absurd k (by simp), fun i k => absurd k (by simp), fun i j k => absurd k (by simp)⟩, Upon.refl _ _⟩⟩
  case round =>
    obtain ⟨j, qs, rfl, hj, ho⟩ := hrel
    have b0 := hB.out _ ho.out.new
    obtain ⟨Aq, cq, hqv, -, -⟩ := Rw.View.shape ho.out.row.view
    subst hqv
    by_cases hlt : j < h.length
    · obtain ⟨g, c, r, hu, -, -, x0, x1, x2, hlv, hpm, -⟩ := (hF.out _ ho.out.new).at hlt
      injection hu with e1 e2 e3
      subst e1 e3
      have hpl := hsane.out.pts _ (List.getElem_mem hlt)
      have hhl := hsane.out.len
      have hqs := ho.out.rows.len
      rw [List.length_take] at hqs
      have hqs2 : qs.length ≤ 1000000000 := by omega
      have htk := List.take_succ_eq_append_getElem hlt
      obtain ⟨⟨rl, rp, rt⟩, hr⟩ : ∃ x, h[j] = x := ⟨_, rfl⟩
      rw [hr] at x2 hlv hpm hpl htk
      simp only at x2 hlv hpm hpl
      obtain ⟨⟨la, ln, lc⟩, ⟨pa, pn, pc⟩, rlast⟩ := r
      simp only at x0 x1 hlv hpm
      have hlq := Lib.hid (fun x (hx : (Value.slice Aq qs.length cq).ownBlock = some x) => Rw.Mine.lt ho.out.row hx)
      replace htk := Lib.hid htk
      have uX := (Upon.refl (fun _ => False) wr).alloc (.cells #[.slice la ln lc, .slice pa pn pc, .int .i64 rt] 59 (0, 0))
      have hX : Rw.Blk3 59 wr.heap.size (.slice la ln lc) (.slice pa pn pc) (.int .i64 rt) (wr.alloc (.cells #[.slice la ln lc, .slice pa pn pc, .int .i64 rt] 59 (0, 0))) := cell_new wr _
      have sX : (wr.alloc (.cells #[.slice la ln lc, .slice pa pn pc, .int .i64 rt] 59 (0, 0))).heap.size = wr.heap.size + 1 := by simp
      have hme := Rw.Mine.empty layP (T := 81) (cell_new (wr.alloc (.cells #[.slice la ln lc, .slice pa pn pc, .int .i64 rt] 59 (0, 0))) (.cells #[] 81 (0, 0)))
      rw [sX] at hme
      have uY := uX.alloc (.cells #[] 81 (0, 0))
      have hXY := hX.new ((Upon.refl (fun _ => False) _).alloc (.cells #[] 81 (0, 0)))
      obtain ⟨k0, k1, k2⟩ := hXY.cells
      have hpv := Lib.hid (hpm.view.new uY)
      have hlv2 := Lib.hid (fun w' (hu : New0 wr w') => Rw.View.new hlv hu)
      replace hme := Lib.hid hme
      replace hXY := Lib.hid hXY
      replace uY := Lib.hid uY
      clear hr hpm hlv uX hX sX hqs
      go_wp2_with (at_builtin; refine Rw.wpList_append typP rfl _ _ rfl _ _ [] rp _ rfl rfl hme.out hpv.out (by rw [List.length_nil]; omega) (by rw [List.length_nil]; omega) ?_)
      intro v6 w6 hown hgr hbl
      replace hown : PMine w6 v6 rp := hown
      obtain ⟨A6, c6, rfl, -, -⟩ := Rw.View.shape hown.view
      have hg0 : (Value.slice (some ⟨wr.heap.size + 1, 0, none⟩) 0 0).ownBlock = some (wr.heap.size + 1) := rfl
      rw [hg0] at hgr hbl
      have hX6 := hXY.out.grown hgr (by intro e; injection e with e; omega)
      obtain ⟨t0, t1, t2⟩ := hX6.cells
      have tf := hX6.frozen 1
      have hbk : ∀ x, (Value.slice A6 rp.length c6).ownBlock = some x → wr.heap.size + 1 ≤ x := fun x hx => by
        rcases hbl with h9 | h9 <;> rw [hx] at h9 <;> injection h9 with h9
        · omega
        · rw [h9]; simp
      obtain ⟨f0, f1, f2⟩ := (hX6.set1 (.slice A6 rp.length c6)).cells
      have us : Upon (fun b => b = wr.heap.size) w6 (w6.setCell ⟨wr.heap.size, 1, none⟩ (.slice A6 rp.length c6)) := Upon.setCell (S := fun b => b = wr.heap.size) (p := ⟨wr.heap.size, 1, none⟩) (Upon.refl _ w6) (.inl rfl) _
      have u7 : New0 wr (w6.setCell ⟨wr.heap.size, 1, none⟩ (.slice A6 rp.length c6)) := Upon.setCell (p := ⟨wr.heap.size, 1, none⟩) (Upon.grown uY.out hgr (fun k hk => .inr (by injection hk with hk; omega))) (.inr (Nat.le_refl _)) _
      have u8 := u7.alloc (.cells #[.slice la ln lc, .slice A6 rp.length c6, .int .i64 rt] 59 (0, 0))
      have s7 : (w6.setCell ⟨wr.heap.size, 1, none⟩ (.slice A6 rp.length c6)).heap.size = w6.heap.size := by simp [World.setCell]
      have hV8 := rview_one (w6.setCell ⟨wr.heap.size, 1, none⟩ (.slice A6 rp.length c6)) ⟨⟨la, ln, lc⟩, ⟨A6, rp.length, c6⟩, rt⟩
      rw [s7] at hV8
      replace hV8 := Lib.hid hV8
      have ho8 := Lib.hid (ho.out.step u8)
      have hM8 := Lib.hid ho8.out.row
      have hlv8 := Lib.hid (hlv2.out _ u8)
      have hpm8 := Lib.hid ((Rw.Mine.upon hown us (fun b hb e => by have := hbk b hb; omega)).new ((Upon.refl _ _).alloc (.cells #[.slice la ln lc, .slice A6 rp.length c6, .int .i64 rt] 59 (0, 0))))
      have hf8 : Hid (∀ b, (Value.slice A6 rp.length c6).ownBlock = some b → w.heap.size ≤ b ∧ (Value.slice Aq qs.length cq).ownBlock ≠ some b ∧ ∀ i (k : i < qs.length), qs[i].pts.v.ownBlock ≠ some b) := Lib.hid (fun b hb => by
        have k1 := hbk b hb
        have k2 := ho.out.new.size
        refine ⟨by omega, fun e => ?_, fun i k e => ?_⟩
        · have := hlq.out b e; omega
        · have := Rw.Mine.lt (ho.out.rows.pts i k (by rw [← ho.out.rows.len]; exact k)) e; omega)
      clear hown hgr hbl hX6 hbk us u7 u8 hg0 hme hpv hXY uY k0 k1 k2 hlv2 hlq ho
      go_wp2_with (at_builtin; refine Rw.wpList_append typR rfl _ _ rfl _ _ qs [(⟨⟨la, ln, lc⟩, ⟨A6, rp.length, c6⟩, rt⟩ : RR)] All rfl rfl hM8.out hV8.out (by rw [List.length_singleton]; omega) (by rw [List.length_singleton]; omega) ?_)
      intro v9 w9 hown9 hgr9 hbl9
      have ho9 := ho8.out.app hRl.out (r := ⟨⟨la, ln, lc⟩, ⟨A6, rp.length, c6⟩, rt⟩) (x := ⟨rl, rp, rt⟩) hlv8.out hpm8.out rfl hf8.out hown9 hgr9 (hbl9.imp id fun h => h.trans (by simp))
      rw [← htk.out] at ho9
      replace ho9 := Lib.hid ho9
      clear hM8 hV8 hlv8 hpm8 hf8 hown9 hgr9 hbl9 ho8 s7 t0 t1 t2 tf f0 f1 f2
      go_wp2_with fail
      go_roundw
      case rel => exact ⟨j + 1, _, by go_num, hlt, ho9⟩
      case measure => simp [intOf]; omega
    · have hje : j = h.length := by omega
      have ua := (Upon.refl (fun _ => False) wr).alloc (.cells #[.slice Aq qs.length cq] 30 (0, 0))
      have ho2 := ho.out.step ua
      rw [hje, List.take_length] at ho2
      have hsz : (wr.alloc (.cells #[.slice Aq qs.length cq] 30 (0, 0))).heap.size = wr.heap.size + 1 := by simp
      have hq1 := ho.out.new.size
      have hR : Hid (HeadR (wr.alloc (.cells #[.slice Aq qs.length cq] 30 (0, 0))) (fun b => w.heap.size ≤ b ∧ b < wr.heap.size + 1) R wr.heap.size ⟨Aq, qs.length, cq⟩ qs h) := Lib.hid
        ⟨cell_new wr _, ho2.row, ho2.rows.mono (fun b hb1 hb => ⟨hb.1, by omega⟩) (fun _ _ h => h), ⟨by omega, by omega⟩, fun b hb => ⟨ho2.base b hb, by have := Rw.Mine.lt ho2.row hb; omega⟩, fun b hb hr => by have := hRl.out b hr; omega,
          fun b hb => by
            rcases hb with hb | hb
            · omega
            · have := hRl.out b hb; omega⟩
      have hN := Lib.hid ho2.new
      clear ho ho2 ua hje
      go_wp2_with fail
      go_ret
      exact ⟨_, _, _, _, rfl, hR.out, fun b hb => hb.1, hN.out⟩
end Hd
end Go.Proofs.YtfheehlfodoimaaGreat
end
