/- Parts: BkPGot, BkNxt, BkHead, CkLen, CkGet, CkDec, BkPts. -/
import Derived.Test.YtgmnhodajngchaaGreatDoorSBkBoth
import Derived.BigQuiet
import Derived.Deep.RegionHeld
import Derived.Test.YtgmnhodajngchaaGreatDoorSPCk2
import Derived.OwnWalk
set_option maxRecDepth 100000
set_option linter.unusedSimpArgs false
set_option linter.unusedVariables false
namespace Go.Proofs.YtgmnhodajngchaaGreatDoor
section
open Go.RowKit
namespace Bk
open Bit Dsk Ob Dig
theorem rest_list (s : ByteArray) (k : Nat) : (s.extract k s.size).data.toList = s.data.toList.drop k := by
 rw [Frm.extract_list, List.take_of_length_le (by rw [Frm.size_list]; exact Nat.le_refl _)]
theorem num_ok {s : List UInt8} {n k : Nat} (hg : gotN s = (n, k, 0)) : Rc.numR s = .ok (n, s.drop k) := by
 unfold Rc.numR; rw [hg]; rfl
theorem num_no {s : List UInt8} {n k x : Nat} (hg : gotN s = (n, k, x)) (hx : x ≠ 0) : ∀ a r, Rc.numR s ≠ .ok (a, r) := fun a r h => by
 unfold Rc.numR at h; rw [hg] at h
 simp only at h
 rw [if_neg hx] at h; cases h
theorem sgn_ok {s : List UInt8} {n k : Nat} (hg : gotN s = (n, k, 0)) : Rc.sgnR s = .ok (unz n, s.drop k) := by
 unfold Rc.sgnR; rw [hg]; rfl
theorem sgn_no {s : List UInt8} {n k x : Nat} (hg : gotN s = (n, k, x)) (hx : x ≠ 0) : ∀ a r, Rc.sgnR s ≠ .ok (a, r) := fun a r h => by
 unfold Rc.sgnR at h; rw [hg] at h
 simp only at h
 rw [if_neg hx] at h; cases h
theorem txt_ok2 {m : Int} {s t : ByteArray} {n k : Nat} (hg : gotT s.data.toList m = (n, k, 0)) (ht : s.extract k (k + n) = t) : Rc.txtR m s.data.toList = .ok (t, s.data.toList.drop (k + n)) := by
 unfold Rc.txtR Lb.txt; rw [hg]
 simp only [if_true]
 rw [<- ht]
 congr 2
 apply Frm.bytes_ext
 rw [Frm.extract_list]
 show (List.take n (List.drop k s.data.toList)).toArray.toList = _
 rw [List.drop_take, Nat.add_sub_cancel_left]
theorem txt_no2 {m : Int} {s : List UInt8} {n k x : Nat} (hg : gotT s m = (n, k, x)) (hx : x ≠ 0) : ∀ t r, Rc.txtR m s ≠ .ok (t, r) := fun a r h => by
 unfold Rc.txtR Lb.txt at h; rw [hg] at h
 simp only at h
 rw [if_neg hx] at h; cases h
def NumsTo : List UInt8 -> List Nat -> List UInt8 -> Prop
 | d, [], r => d = r
 | d, n :: ns, r => ∃ q, Rc.numR d = .ok (n, q) /\ NumsTo q ns r
theorem NumsTo.snoc : ∀ {ns : List Nat} {d r q : List UInt8} {n : Nat}, NumsTo d ns r -> Rc.numR r = .ok (n, q) -> NumsTo d (ns ++ [n]) q
 | [], d, r, q, n, h, h2 => ⟨q, by rw [show d = r from h]; exact h2, rfl⟩
 | a :: ns, d, r, q, n, ⟨p, h1, h3⟩, h2 => ⟨p, h1, NumsTo.snoc h3 h2⟩
theorem NumsTo.four {d r : List UInt8} {a b c e f t n m : Nat} (h : NumsTo d [a, b, c, e] r) (h4 : Four d f t n m) : a = f /\ b = t /\ c = n /\ e = m /\ r = [] := by
 obtain ⟨q1, h1, q2, h2, q3, h3, q4, h5, rfl⟩ := h
 obtain ⟨r1, r2, r3, k1, k2, k3, k4⟩ := h4
 rw [h1] at k1
 obtain ⟨e1, e2⟩ := Prod.mk.inj (Except.ok.inj k1)
 subst e1 e2
 rw [h2] at k2
 obtain ⟨e1, e2⟩ := Prod.mk.inj (Except.ok.inj k2)
 subst e1 e2
 rw [h3] at k3
 obtain ⟨e1, e2⟩ := Prod.mk.inj (Except.ok.inj k3)
 subst e1 e2
 rw [h5] at k4
 obtain ⟨e1, e2⟩ := Prod.mk.inj (Except.ok.inj k4)
 exact ⟨rfl, rfl, rfl, e1, e2⟩
theorem NumsTo.is {d : List UInt8} {a b c e : Nat} (h : NumsTo d [a, b, c, e] []) : Four d a b c e := by
 obtain ⟨q1, h1, q2, h2, q3, h3, q4, h5, rfl⟩ := h
 exact ⟨q1, q2, q3, h1, h2, h3, h5⟩
theorem NumsTo.not {d r : List UInt8} {ns : List Nat} (h : NumsTo d ns r) (hl : ns.length < 4) (hr : ∀ a q, Rc.numR r ≠ .ok (a, q)) {f t n m : Nat} : ¬ Four d f t n m := by
 rintro ⟨r1, r2, r3, k1, k2, k3, k4⟩
 match ns, h, hl with
 | [], h, _ => exact hr _ _ (by rw [<- show d = r from h]; exact k1)
 | [a], ⟨q1, h1, h2⟩, _ =>
  rw [h1] at k1
  obtain ⟨e1, e2⟩ := Prod.mk.inj (Except.ok.inj k1)
  subst e1 e2
  exact hr _ _ (by rw [<- show q1 = r from h2]; exact k2)
 | [a, b], ⟨q1, h1, q2, h2, h3⟩, _ =>
  rw [h1] at k1
  obtain ⟨e1, e2⟩ := Prod.mk.inj (Except.ok.inj k1)
  subst e1 e2
  rw [h2] at k2
  obtain ⟨e1, e2⟩ := Prod.mk.inj (Except.ok.inj k2)
  subst e1 e2
  exact hr _ _ (by rw [<- show q2 = r from h3]; exact k3)
 | [a, b, c], ⟨q1, h1, q2, h2, q3, h3, h5⟩, _ =>
  rw [h1] at k1
  obtain ⟨e1, e2⟩ := Prod.mk.inj (Except.ok.inj k1)
  subst e1 e2
  rw [h2] at k2
  obtain ⟨e1, e2⟩ := Prod.mk.inj (Except.ok.inj k2)
  subst e1 e2
  rw [h3] at k3
  obtain ⟨e1, e2⟩ := Prod.mk.inj (Except.ok.inj k3)
  subst e1 e2
  exact hr _ _ (by rw [<- show q3 = r from h5]; exact k4)
 | _ :: _ :: _ :: _ :: _, _, hl => simp at hl; omega
theorem allA_len : ∀ (fs : List Fr), fs.length <= (Frm.allA fs).length
 | [] => Nat.zero_le _
 | f :: fs => by
  have h1 := allA_len fs
  have h2 := Frm.putA_size f.1 f.2
  rw [Frm.allA, List.length_append, List.length_cons, Frm.size_list]
  omega
theorem St.size {s0 r : List UInt8} {b : B} {n m : Nat} (h : St s0 b n m r) : b.rows.length + b.dels.length + 1 <= s0.length /\ r.length <= s0.length := by
 have h1 := congrArg List.length h.fr.is
 have h2 := allA_len ((2, bts (headN b.first.toNat b.til.toNat n m)) :: (b.rows.map rowF ++ b.dels.map delF))
 rw [List.length_append] at h1
 simp only [List.length_cons, List.length_append, List.length_map] at h2
 omega
def HeadE (w : World) (sl : List UInt8) (e : Ending) (w' : World) : Prop := ∃ (f t n m : Nat) (b : Bool), e = .returned (.tuple #[.agg #[.int .i64 (f : Int), .int .i64 (t : Int), .slice none 0 0, .slice none 0 0], .int .u64 (n : Int), .int .u64 (m : Int), .bool b]) /\ New0 w w' /\
 (b = false -> ∀ f t n m, Four sl f t n m -> f <= 99999999 -> t <= 99999999 -> False) /\ (b = true -> Four sl f t n m /\ f <= 99999999 /\ t <= 99999999)
def PtsE (w : World) (sl : List UInt8) (e : Ending) (w' : World) : Prop := ∃ (pv : Rw.Sl) (l : List Pt) (b : Bool), e = .returned (.tuple #[.slice pv.a pv.n pv.c, .bool b]) /\ New0 w w' /\ (b = false -> PtsNot sl) /\ (b = true -> Rw.View Hd.layP w' (Lb.Nw w) (.slice pv.a pv.n pv.c) l /\ GotTo sl l [])
def RowP (w : World) (sl : List UInt8) (e : Ending) (w' : World) : Prop := ∃ (sv pv : Rw.Sl) (t : Int) (b : Bool), e = .returned (.tuple #[.agg #[.slice sv.a sv.n sv.c, .int .i64 t, .slice pv.a pv.n pv.c], .bool b]) /\ New0 w w' /\ (b = false -> RowNot sl) /\
 (b = true -> ∃ r : Row, t = r.last /\ innB.rel w' (Lb.Nw w) ⟨sv, t, pv⟩ r /\ RowGot sl r)
theorem RowP.no {w w' : World} {sl : List UInt8} {A A' : Option Addr} {n n' c c' : Nat} {t : Int} (h : RowNot sl) (hu : New0 w w') : RowP w sl (.returned (.tuple #[.agg #[.slice A n c, .int .i64 t, .slice A' n' c'], .bool false])) w' :=
 ⟨⟨A, n, c⟩, ⟨A', n', c'⟩, t, false, rfl, hu, fun _ => h, fun h => by cases h⟩
def DelP (w : World) (sl : List UInt8) (e : Ending) (w' : World) : Prop := ∃ (v : Value), e = .returned (.tuple #[v, .bool (decide ((Rc.dec sl).2 = 0 /\ (Rc.dec sl).1.kind = 2))]) /\ New0 w w' /\ Rc.RView w' (Lb.Nw w) v (Rc.dec sl).1 /\ Rc.Rng (Rc.dec sl).1
end Bk
end
section
open Go.RowKit Go.Sort
namespace Bk
open Bit Dsk Ob Dig
def Left (g : Nat) (s : ByteArray) (w : World) : Prop := w.heap[g]? = some (.cells #[.string s] 9 (0, 0))
section
variable {g : Nat} {s : ByteArray} {w w' : World}
theorem Left.cell (h : Left g s w) : w.cell? ⟨g, 0, none⟩ = some (.string s) := by rw [Lib.cell_of_heap h]; rfl
theorem Left.frozen (h : Left g s w) : w.frozen? ⟨g, 0, none⟩ = false := by unfold Left at h; simp [World.frozen?, h]
theorem Left.lt (h : Left g s w) : g < w.heap.size := (Array.getElem?_eq_some_iff.1 h).1
theorem Left.set (h : Left g s w) (t : ByteArray) : Left g t (w.setCell ⟨g, 0, none⟩ (.string t)) := by unfold Left at *; simp [World.setCell, Array.getElem?_modify, h]
theorem Left.upon {U : Nat -> Prop} (h : Left g s w) (hu : Upon U w w') (hn : ¬ U g) : Left g s w' := (hu.block g h.lt hn).trans h
theorem Left.new (h : Left g s w) (hu : New0 w w') : Left g s w' := h.upon hu fun f => f
theorem Left.grown {k : Option Nat} (h : Left g s w) (hg : w.grownBy w' k) (hk : some g ≠ k) : Left g s w' := (hg.block g h.lt hk).trans h
theorem Left.made (w : World) (s : ByteArray) : Left w.heap.size s (w.alloc (.cells #[.string s] 9 (0, 0))) := cell_new w _
end
theorem gotF_size (s : ByteArray) : (Frm.gotF s).size <= s.size := by
 by_cases h : (Frm.gotF s).err = 0
 ·exact (Frm.gotF_ok s h).2.1
 ·unfold Frm.gotF at h ⊢
  cases hl : s.data.toList with
  | nil => simp [hl, Frm.bad]
  | cons c r =>
   simp only [hl] at h ⊢
   split
   ·simp [Frm.bad]
   ·rename_i h1
    rw [if_neg h1] at h
    split
    ·simp [Frm.bad]
    ·rename_i h2
     rw [if_neg h2] at h
     split
     ·simp [Frm.bad]
     ·rename_i h3
      rw [if_neg h3] at h
      split
      ·rename_i h4
       rw [if_pos h4] at h
       exact absurd rfl h
      ·simp [Frm.bad]
theorem nxt_ret {D : ByteArray} {b b' : Bool} (h : b = b') : Ending.returned (.tuple #[.string D, .bool b]) = .returned (.tuple #[.string D, .bool b']) := by rw [h]
def NxtE (g k : Nat) (s : ByteArray) (w : World) (e : Ending) (w' : World) : Prop := e = .returned (.tuple #[.string (Frm.gotF s).data, .bool (decide ((Frm.gotF s).err = 0 /\ (Frm.gotF s).kind = k))]) /\ Left g (s.extract (Frm.gotF s).size s.size) w' /\ Upon (fun x => x = g) w w'
set_option maxHeartbeats 3200000 in
theorem next_any (g k : Nat) (s : ByteArray) (hs : s.size <= 140737488351232) (w : World) (hT : Crc.Tab w) (hL : Left g s w) :
  Calls Tryz.prog 47 #[.int .i64 (k : Int), .pointer (some ⟨g, 0, none⟩)] w (NxtE g k s w) := by
 obtain ⟨G, hG⟩ : ∃ G, Frm.gotF s = G := ⟨_, rfl⟩
 have HG := Lib.hid (Frm.get_is s G hs hG w hT)
 have hz := gotF_size s
 unfold NxtE
 rw [hG] at hz ⊢
 obtain ⟨K, D, z, x⟩ := G
 simp only at HG hz ⊢
 have c0 := hL.cell
 have f0 := hL.frozen
 replace hL := Lib.hid hL
 clear hG hT
 go_enter Tryz.func47, Tryz.ntmps47
 go_wp2_with fail
 refine HG.out.mono ?_
 rintro e w2 ⟨rfl, hb2⟩
 have hu2 := newOf hb2
 have hL2 := hL.out.new hu2
 obtain ⟨w3, hw3⟩ : ∃ w3, w2.alloc (.cells #[.int .i64 (K : Int), .string D] 98 (0, 0)) = w3 := ⟨_, rfl⟩
 have hn3 : New0 w2 w3 := by rw [<- hw3]; exact (Upon.refl _ _).alloc _
 have hL3 := hL2.new hn3
 have b0 : w3.cell? ⟨w2.heap.size, 0, none⟩ = some (.int .i64 (K : Int)) := by rw [<- hw3, Lib.cell_of_heap (cell_new w2 _)]; rfl
 have b1 : w3.cell? ⟨w2.heap.size, 1, none⟩ = some (.string D) := by rw [<- hw3, Lib.cell_of_heap (cell_new w2 _)]; rfl
 have hne : g ≠ w2.heap.size := Nat.ne_of_lt hL2.lt
 have c3 := hL3.cell
 have f3 := hL3.frozen
 have hL4 := Lib.hid (hL3.set (s.extract z s.size))
 have hu4 := Lib.hid (Upon.setCell (S := fun x => x = g) (p := ⟨g, 0, none⟩) ((hu2.trans hn3).mono (fun _ _ f => f.elim)) (.inl rfl) (.string (s.extract z s.size)))
 obtain ⟨w4, hw4⟩ : ∃ w4, w3.setCell ⟨g, 0, none⟩ (.string (s.extract z s.size)) = w4 := ⟨_, rfl⟩
 have d0 : w4.cell? ⟨w2.heap.size, 0, none⟩ = some (.int .i64 (K : Int)) := by rw [<- hw4, World.cell?_setCell_far _ _ _ _ hne]; exact b0
 have d1 : w4.cell? ⟨w2.heap.size, 1, none⟩ = some (.string D) := by rw [<- hw4, World.cell?_setCell_far _ _ _ _ hne]; exact b1
 rw [hw4] at hL4 hu4
 rw [<- hw3] at c3 f3
 replace hw3 := Lib.hid hw3
 replace hw4 := Lib.hid hw4
 clear HG hL hb2 hu2 hL2 hn3 hL3 hne c0 f0
 by_cases hx : x = 0
 ·subst hx
  by_cases hk : K = k
  ·subst hk
   have d2 : ((K : Int) == (K : Int)) = true := by simp
   have d3 : decide ((0 : Nat) = 0 /\ K = K) = true := by simp
   go_wp2_with fail
   rw [hw3.out, hw4.out]
   go_quiet (fail)
   go_wp2_with fail
   go_ret2
   exact ⟨nxt_ret (by simp_all), hL4.out.new (upon_drewN _ _ _), hu4.out.trans (upon_drewN _ _ _)⟩
  ·have d2 : ((K : Int) == (k : Int)) = false := by rw [beq_eq_false_iff_ne]; omega
   have d3 : decide ((0 : Nat) = 0 /\ K = k) = false := decide_eq_false (fun h => hk h.2)
   go_wp2_with fail
   rw [hw3.out, hw4.out]
   go_quiet (fail)
   go_wp2_with fail
   go_ret2
   exact ⟨nxt_ret (by simp_all), hL4.out.new (upon_drewN _ _ _), hu4.out.trans (upon_drewN _ _ _)⟩
 ·have d2 : ((x : Int) == 0) = false := by rw [beq_eq_false_iff_ne]; omega
  have d3 : decide (x = 0 /\ K = k) = false := decide_eq_false (fun h => hx h.1)
  go_wp2_with fail
  rw [hw3.out, hw4.out]
  go_quiet (fail)
  go_wp2_with fail
  go_ret2
  exact ⟨nxt_ret (by simp_all), hL4.out.new (upon_drewN _ _ _), hu4.out.trans (upon_drewN _ _ _)⟩
end Bk
end
section
open Go.RowKit Go.Sort
namespace Bk
open Bit Dsk Ob Dig
def NumB (g : Nat) (ns : List Nat) (w : World) : Prop := w.heap[g]? = some (.cells #[.int .u64 ((ns.getD 0 0 : Nat) : Int), .int .u64 ((ns.getD 1 0 : Nat) : Int), .int .u64 ((ns.getD 2 0 : Nat) : Int), .int .u64 ((ns.getD 3 0 : Nat) : Int)] 182 (0, 0))
theorem NumB.upon {g : Nat} {ns : List Nat} {w w' : World} {U : Nat -> Prop} (h : NumB g ns w) (hu : Upon U w w') (hn : ¬ U g) : NumB g ns w' := (hu.block g (Array.getElem?_eq_some_iff.1 h).1 hn).trans h
theorem NumB.new {g : Nat} {ns : List Nat} {w w' : World} (h : NumB g ns w) (hu : New0 w w') : NumB g ns w' := h.upon hu fun f => f
theorem NumB.cells {g : Nat} {ns : List Nat} {w : World} (h : NumB g ns w) : w.cell? ⟨g, 0, none⟩ = some (.int .u64 ((ns.getD 0 0 : Nat) : Int)) /\ w.cell? ⟨g, 1, none⟩ = some (.int .u64 ((ns.getD 1 0 : Nat) : Int)) /\ w.cell? ⟨g, 2, none⟩ = some (.int .u64 ((ns.getD 2 0 : Nat) : Int)) /\ w.cell? ⟨g, 3, none⟩ = some (.int .u64 ((ns.getD 3 0 : Nat) : Int)) :=
 ⟨by rw [Lib.cell_of_heap h]; rfl, by rw [Lib.cell_of_heap h]; rfl, by rw [Lib.cell_of_heap h]; rfl, by rw [Lib.cell_of_heap h]; rfl⟩
theorem NumB.frozen {g : Nat} {ns : List Nat} {w : World} (h : NumB g ns w) (i : Nat) : w.frozen? ⟨g, i, none⟩ = false := by unfold NumB at h; simp [World.frozen?, h]
theorem NumB.at {g : Nat} {ns : List Nat} {w : World} (h : NumB g ns w) {i : Nat} (hi : i < 4) : ∃ v, w.cell? ⟨g, i, none⟩ = some v := by
 obtain ⟨a, b, c, d⟩ := h.cells
 match i, hi with
 | 0, _ => exact ⟨_, a⟩
 | 1, _ => exact ⟨_, b⟩
 | 2, _ => exact ⟨_, c⟩
 | 3, _ => exact ⟨_, d⟩
theorem NumB.snoc {g : Nat} {ns : List Nat} {w : World} (h : NumB g ns w) (hl : ns.length < 4) (n : Nat) : NumB g (ns ++ [n]) (w.setCell ⟨g, ns.length, none⟩ (.int .u64 (n : Int))) := by
 unfold NumB at *
 match ns, hl with
 | [], _ => simp [World.setCell, Array.getElem?_modify, h]
 | [a], _ => simp [World.setCell, Array.getElem?_modify, h]
 | [a, b], _ => simp [World.setCell, Array.getElem?_modify, h]
 | [a, b, c], _ => simp [World.setCell, Array.getElem?_modify, h]
theorem nonempty_list {s : ByteArray} (h : s.toList.isEmpty = false) : s.data.toList ≠ [] := fun e => by
 rw [ByteArray.toList_eq, e] at h; cases h
theorem empty_list {s : ByteArray} (h : s.toList.isEmpty = true) : s.data.toList = [] := by
 rw [ByteArray.toList_eq, List.isEmpty_iff] at h; exact h
theorem HeadE.no {w w' : World} {sl : List UInt8} (h : ∀ f t n m, Four sl f t n m -> f <= 99999999 -> t <= 99999999 -> False) (hu : New0 w w') : HeadE w sl (.returned (.tuple #[.agg #[.int .i64 0, .int .i64 0, .slice none 0 0, .slice none 0 0], .int .u64 0, .int .u64 0, .bool false])) w' :=
 ⟨0, 0, 0, 0, false, rfl, hu, fun _ => h, fun h => by cases h⟩
set_option maxHeartbeats 6400000 in
theorem pgethead_any (w : World) (s : ByteArray) (hs : s.size <= 65536) :
  Calls Tryz.prog 49 #[.string s] w (HeadE w s.data.toList) := by
 obtain ⟨sl, hsl⟩ : ∃ sl, s.data.toList = sl := ⟨_, rfl⟩
 have hn0 : Hid (NumsTo sl [] s.data.toList) := Lib.hid hsl.symm
 rw [hsl]
 obtain ⟨wA, hwA⟩ : ∃ wA, w.alloc (.cells #[.int .i64 0, .int .i64 0, .slice none 0 0, .slice none 0 0] 25 (0, 0)) = wA := ⟨_, rfl⟩
 have hres : Quad 25 w.heap.size ⟨.int .i64 0, .int .i64 0, .slice none 0 0, .slice none 0 0⟩ wA := by rw [<- hwA]; exact cell_new w _
 have hN0 : New0 w wA := by rw [<- hwA]; exact (Upon.refl _ w).alloc _
 have hg : wA.heap.size = w.heap.size + 1 := by rw [<- hwA]; simp
 obtain ⟨wB, hwB⟩ : ∃ wB, wA.alloc (.cells #[.int .u64 0, .int .u64 0, .int .u64 0, .int .u64 0] 182 (0, 0)) = wB := ⟨_, rfl⟩
 have hnb : NumB (w.heap.size + 1) [] wB := by rw [<- hwB, <- hg]; exact cell_new wA _
 have hN1 : New0 wA wB := by rw [<- hwB]; exact (Upon.refl _ wA).alloc _
 have hresB := Lib.hid (hres.new hN1)
 have hNB := Lib.hid (hN0.trans hN1)
 have hw : Hid ((w.alloc (.cells #[.int .i64 0, .int .i64 0, .slice none 0 0, .slice none 0 0] 25 (0, 0))).alloc (.cells #[.int .u64 0, .int .u64 0, .int .u64 0, .int .u64 0] 182 (0, 0)) = wB) := Lib.hid (by rw [hwA, hwB])
 replace hnb := Lib.hid hnb
 clear hwA hwB hres hN0 hN1 hg hsl
 go_enter Tryz.func49, Tryz.ntmps49
 go_wp2_with fail
 rw [hw.out]
 obtain ⟨g, hg⟩ : ∃ g, w.heap.size + 1 = g := ⟨_, rfl⟩
 rw [hg] at hnb
 rw [hg]
 have hne : w.heap.size ≠ g := by omega
 have hng : w.heap.size <= g := by omega
 clear hw hg
 go_loopw [0, 11] (fun s0 s11 wr => ∃ (ns : List Nat) (sx : ByteArray), s0 = .string sx /\ s11 = .int .i64 (ns.length : Int) /\ ns.length <= 4 /\ sx.size <= 65536 /\ Hid (NumsTo sl ns sx.data.toList) /\ Hid (NumB g ns wr) /\ Hid (Quad 25 w.heap.size ⟨.int .i64 0, .int .i64 0, .slice none 0 0, .slice none 0 0⟩ wr) /\ Hid (New0 w wr)) (fun _ s11 _ => 4 - (intOf s11).toNat)
 case atStart => exact ⟨[], s, rfl, rfl, Nat.zero_le _, hs, hn0, hnb, hresB, hNB⟩
 case round =>
  clear hnb hn0 hresB hNB
  obtain ⟨ns, sx, rfl, rfl, hl4, hsx, hnt, hnb, hresw, hnw⟩ := hrel
  by_cases hlt : ns.length < 4
  ·have dl : decide ((ns.length : Int) < 4) = true := decide_eq_true (by omega)
   obtain ⟨n, k, x, hg⟩ : ∃ n k x, gotN sx.data.toList = (n, k, x) := ⟨_, _, _, rfl⟩
   have hk : k <= sx.size := by
    have := (gotN_lt sx.data.toList).2.2.1
    rw [hg, Frm.size_list] at this
    exact this
   have HG := Dig.get_any sx (by omega) wr
   rw [hg] at HG
   replace HG := Lib.hid HG
   by_cases hx : x = 0
   ·subst hx
    have hnx := Lib.hid (hnt.out.snoc (num_ok hg))
    rw [<- rest_list] at hnx
    have hsz : (sx.extract k sx.size).size <= 65536 := by rw [ByteArray.size_extract]; omega
    clear hg
    go_wp2_with fail
    refine HG.out.mono ?_
    rintro e w2 ⟨rfl, hb2⟩
    have hu2 := newOf hb2
    have hnb2 := hnb.out.new hu2
    obtain ⟨v0, q0⟩ := hnb2.at hlt
    have f0 := hnb2.frozen ns.length
    have us : Upon (fun b => b = g) w2 (w2.setCell ⟨g, ns.length, none⟩ (.int .u64 (n : Int))) := Upon.setCell (S := fun b => b = g) (p := ⟨g, ns.length, none⟩) (Upon.refl _ _) (.inl rfl) _
    have hnb3 : Hid (NumB g (ns ++ [n]) (w2.setCell ⟨g, ns.length, none⟩ (.int .u64 (n : Int))).drew) := Lib.hid ((NumB.snoc hnb2 hlt n).new (upon_drewN _ _ 1))
    have hres3 : Hid (Quad 25 w.heap.size ⟨.int .i64 0, .int .i64 0, .slice none 0 0, .slice none 0 0⟩ (w2.setCell ⟨g, ns.length, none⟩ (.int .u64 (n : Int))).drew) := Lib.hid ((Quad.upon (hresw.out.new hu2) us hne).new (upon_drewN _ _ 1))
    have hn3 : Hid (New0 w (w2.setCell ⟨g, ns.length, none⟩ (.int .u64 (n : Int))).drew) := Lib.hid (((hnw.out.trans hu2).trans' us (fun i hi e => by omega)).trans (upon_drewN _ _ 1))
    clear HG hb2 hu2 hnb2 us hnb hresw hnw hnt
    go_wp2_with fail
    go_region
    all_goals
     go_wp2_with fail
     go_roundw
     case rel => exact ⟨ns ++ [n], _, rfl, by rw [List.length_append, List.length_singleton]; go_num, by rw [List.length_append, List.length_singleton]; omega, hsz, hnx, hnb3, hres3, hn3⟩
     case measure => simp [intOf]; omega
   ·have dx : ((x : Int) != 0) = true := by rw [bne_iff_ne]; omega
    have hno := Lib.hid (fun f t n m (h4 : Four sl f t n m) (_ : f <= 99999999) (_ : t <= 99999999) => hnt.out.not hlt (num_no hg hx) h4)
    clear hg
    go_wp2_with fail
    refine HG.out.mono ?_
    rintro e w2 ⟨rfl, hb2⟩
    have hu2 := newOf hb2
    replace hresw := Lib.hid (hresw.out.new hu2)
    replace hnw := Lib.hid (hnw.out.trans hu2)
    clear HG hb2 hu2 hnb hnt
    have hF := hresw.out
    obtain ⟨g0, g1, g2, g3⟩ := hF.cells
    have z0 := hF.frozen 0
    obtain ⟨⟨p1, q1⟩, ⟨p2, q2⟩, ⟨p3, q3⟩⟩ := hF.roads ⟨.int .i64 0, .int .i64 0, .slice none 0 0, .slice none 0 0⟩
    obtain ⟨wz, hwz⟩ : ∃ wz, ((((w2.setCell ⟨w.heap.size, 0, none⟩ (.int .i64 0)).setCell ⟨w.heap.size, 1, none⟩ (.int .i64 0)).setCell ⟨w.heap.size, 2, none⟩ (.slice none 0 0)).setCell ⟨w.heap.size, 3, none⟩ (.slice none 0 0)) = wz := ⟨_, rfl⟩
    have hFz := (hF.setAll ⟨.int .i64 0, .int .i64 0, .slice none 0 0, .slice none 0 0⟩).cells
    unfold setQuad at hFz
    simp only at hFz
    rw [hwz] at hFz
    replace hFz := Lib.hid hFz
    have hNz : Hid (New0 w wz) := Lib.hid (by rw [<- hwz]; exact upon_setQuad hnw.out (.inr (Nat.le_refl _)) ⟨.int .i64 0, .int .i64 0, .slice none 0 0, .slice none 0 0⟩)
    have hwz' : Hid (((((w2.setCell ⟨w.heap.size, 0, none⟩ (.int .i64 0)).setCell ⟨w.heap.size, 1, none⟩ (.int .i64 0)).setCell ⟨w.heap.size, 2, none⟩ (.slice none 0 0)).setCell ⟨w.heap.size, 3, none⟩ (.slice none 0 0)) = wz) := Lib.hid hwz
    clear hwz hF
    go_wp2_with fail
    rw [hwz'.out]
    obtain ⟨r0, r1, r2, r3⟩ := hFz.out
    clear g0 g1 g2 g3 z0 p1 q1 p2 q2 p3 q3
    refine bodyPost_ret (v := .tuple #[.agg #[.int .i64 0, .int .i64 0, .slice none 0 0, .slice none 0 0], .int .u64 0, .int .u64 0, .bool false]) (by simp [results, Tryz.results49, go_sem, r0, r1, r2, r3]) rfl ?_
    exact HeadE.no hno.out hNz.out
  ·have dl : decide ((ns.length : Int) < 4) = false := decide_eq_false (by omega)
   obtain ⟨a, b, c, d, rfl⟩ : ∃ a b c d, ns = [a, b, c, d] := by
    match ns, hlt, hl4 with
    | [a, b, c, d], _, _ => exact ⟨a, b, c, d, rfl⟩
    | [], h, _ => simp at h
    | [_], h, _ => simp at h
    | [_, _], h, _ => simp at h
    | [_, _, _], h, _ => simp at h
    | _ :: _ :: _ :: _ :: _ :: _, _, h => simp at h
   obtain ⟨k0, k1, k2, k3⟩ := hnb.out.cells
   simp only [List.getD_cons_zero, List.getD_cons_succ] at k0 k1 k2 k3
   cases hb6 : sx.toList.isEmpty with
   | false =>
    have hno := Lib.hid (fun f t n m (h4 : Four sl f t n m) (_ : f <= 99999999) (_ : t <= 99999999) => nonempty_list hb6 (hnt.out.four h4).2.2.2.2)
    clear hnb hnt
    have hF := hresw.out
    obtain ⟨g0, g1, g2, g3⟩ := hF.cells
    have z0 := hF.frozen 0
    obtain ⟨⟨p1, q1⟩, ⟨p2, q2⟩, ⟨p3, q3⟩⟩ := hF.roads ⟨.int .i64 0, .int .i64 0, .slice none 0 0, .slice none 0 0⟩
    obtain ⟨wz, hwz⟩ : ∃ wz, ((((wr.setCell ⟨w.heap.size, 0, none⟩ (.int .i64 0)).setCell ⟨w.heap.size, 1, none⟩ (.int .i64 0)).setCell ⟨w.heap.size, 2, none⟩ (.slice none 0 0)).setCell ⟨w.heap.size, 3, none⟩ (.slice none 0 0)) = wz := ⟨_, rfl⟩
    have hFz := (hF.setAll ⟨.int .i64 0, .int .i64 0, .slice none 0 0, .slice none 0 0⟩).cells
    unfold setQuad at hFz
    simp only at hFz
    rw [hwz] at hFz
    replace hFz := Lib.hid hFz
    have hNz : Hid (New0 w wz) := Lib.hid (by rw [<- hwz]; exact upon_setQuad hnw.out (.inr (Nat.le_refl _)) ⟨.int .i64 0, .int .i64 0, .slice none 0 0, .slice none 0 0⟩)
    have hwz' : Hid (((((wr.setCell ⟨w.heap.size, 0, none⟩ (.int .i64 0)).setCell ⟨w.heap.size, 1, none⟩ (.int .i64 0)).setCell ⟨w.heap.size, 2, none⟩ (.slice none 0 0)).setCell ⟨w.heap.size, 3, none⟩ (.slice none 0 0)) = wz) := Lib.hid hwz
    clear hwz hF
    go_wp2_with fail
    rw [hwz'.out]
    obtain ⟨r0, r1, r2, r3⟩ := hFz.out
    clear g0 g1 g2 g3 z0 p1 q1 p2 q2 p3 q3
    refine bodyPost_ret (v := .tuple #[.agg #[.int .i64 0, .int .i64 0, .slice none 0 0, .slice none 0 0], .int .u64 0, .int .u64 0, .bool false]) (by simp [results, Tryz.results49, go_sem, r0, r1, r2, r3]) rfl ?_
    exact HeadE.no hno.out hNz.out
   | true =>
    have hnil := empty_list hb6
    by_cases ha : 99999999 < a
    ·have d1 : decide ((99999999 : Int) < (a : Int)) = true := decide_eq_true (by omega)
     have hno := Lib.hid (fun f t n m (h4 : Four sl f t n m) (h1 : f <= 99999999) (_ : t <= 99999999) => (by have := (hnt.out.four h4).1; omega : False))
     clear hnb hnt
     have hF := hresw.out
     obtain ⟨g0, g1, g2, g3⟩ := hF.cells
     have z0 := hF.frozen 0
     obtain ⟨⟨p1, q1⟩, ⟨p2, q2⟩, ⟨p3, q3⟩⟩ := hF.roads ⟨.int .i64 0, .int .i64 0, .slice none 0 0, .slice none 0 0⟩
     obtain ⟨wz, hwz⟩ : ∃ wz, ((((wr.setCell ⟨w.heap.size, 0, none⟩ (.int .i64 0)).setCell ⟨w.heap.size, 1, none⟩ (.int .i64 0)).setCell ⟨w.heap.size, 2, none⟩ (.slice none 0 0)).setCell ⟨w.heap.size, 3, none⟩ (.slice none 0 0)) = wz := ⟨_, rfl⟩
     have hFz := (hF.setAll ⟨.int .i64 0, .int .i64 0, .slice none 0 0, .slice none 0 0⟩).cells
     unfold setQuad at hFz
     simp only at hFz
     rw [hwz] at hFz
     replace hFz := Lib.hid hFz
     have hNz : Hid (New0 w wz) := Lib.hid (by rw [<- hwz]; exact upon_setQuad hnw.out (.inr (Nat.le_refl _)) ⟨.int .i64 0, .int .i64 0, .slice none 0 0, .slice none 0 0⟩)
     have hwz' : Hid (((((wr.setCell ⟨w.heap.size, 0, none⟩ (.int .i64 0)).setCell ⟨w.heap.size, 1, none⟩ (.int .i64 0)).setCell ⟨w.heap.size, 2, none⟩ (.slice none 0 0)).setCell ⟨w.heap.size, 3, none⟩ (.slice none 0 0)) = wz) := Lib.hid hwz
     clear hwz hF
     go_wp2_with fail
     rw [hwz'.out]
     obtain ⟨r0, r1, r2, r3⟩ := hFz.out
     clear g0 g1 g2 g3 z0 p1 q1 p2 q2 p3 q3
     refine bodyPost_ret (v := .tuple #[.agg #[.int .i64 0, .int .i64 0, .slice none 0 0, .slice none 0 0], .int .u64 0, .int .u64 0, .bool false]) (by simp [results, Tryz.results49, go_sem, r0, r1, r2, r3]) rfl ?_
     exact HeadE.no hno.out hNz.out
    ·have d1 : decide ((99999999 : Int) < (a : Int)) = false := decide_eq_false (by omega)
     by_cases hb : 99999999 < b
     ·have d2 : decide ((99999999 : Int) < (b : Int)) = true := decide_eq_true (by omega)
      have hno := Lib.hid (fun f t n m (h4 : Four sl f t n m) (_ : f <= 99999999) (h1 : t <= 99999999) => (by have := (hnt.out.four h4).2.1; omega : False))
      clear hnb hnt
      have hF := hresw.out
      obtain ⟨g0, g1, g2, g3⟩ := hF.cells
      have z0 := hF.frozen 0
      obtain ⟨⟨p1, q1⟩, ⟨p2, q2⟩, ⟨p3, q3⟩⟩ := hF.roads ⟨.int .i64 0, .int .i64 0, .slice none 0 0, .slice none 0 0⟩
      obtain ⟨wz, hwz⟩ : ∃ wz, ((((wr.setCell ⟨w.heap.size, 0, none⟩ (.int .i64 0)).setCell ⟨w.heap.size, 1, none⟩ (.int .i64 0)).setCell ⟨w.heap.size, 2, none⟩ (.slice none 0 0)).setCell ⟨w.heap.size, 3, none⟩ (.slice none 0 0)) = wz := ⟨_, rfl⟩
      have hFz := (hF.setAll ⟨.int .i64 0, .int .i64 0, .slice none 0 0, .slice none 0 0⟩).cells
      unfold setQuad at hFz
      simp only at hFz
      rw [hwz] at hFz
      replace hFz := Lib.hid hFz
      have hNz : Hid (New0 w wz) := Lib.hid (by rw [<- hwz]; exact upon_setQuad hnw.out (.inr (Nat.le_refl _)) ⟨.int .i64 0, .int .i64 0, .slice none 0 0, .slice none 0 0⟩)
      have hwz' : Hid (((((wr.setCell ⟨w.heap.size, 0, none⟩ (.int .i64 0)).setCell ⟨w.heap.size, 1, none⟩ (.int .i64 0)).setCell ⟨w.heap.size, 2, none⟩ (.slice none 0 0)).setCell ⟨w.heap.size, 3, none⟩ (.slice none 0 0)) = wz) := Lib.hid hwz
      clear hwz hF
      go_wp2_with fail
      rw [hwz'.out]
      obtain ⟨r0, r1, r2, r3⟩ := hFz.out
      clear g0 g1 g2 g3 z0 p1 q1 p2 q2 p3 q3
      refine bodyPost_ret (v := .tuple #[.agg #[.int .i64 0, .int .i64 0, .slice none 0 0, .slice none 0 0], .int .u64 0, .int .u64 0, .bool false]) (by simp [results, Tryz.results49, go_sem, r0, r1, r2, r3]) rfl ?_
      exact HeadE.no hno.out hNz.out
     ·have d2 : decide ((99999999 : Int) < (b : Int)) = false := decide_eq_false (by omega)
      have hfour : Hid (Four sl a b c d) := Lib.hid (NumsTo.is (by rw [<- hnil]; exact hnt.out))
      have i1 : IntKind.i64.wrap (a : Int) = (a : Int) := by rw [IntKind.wrap_i64]; omega
      have i2 : IntKind.i64.wrap (b : Int) = (b : Int) := by rw [IntKind.wrap_i64]; omega
      have hF := hresw.out
      obtain ⟨g0, g1, g2, g3⟩ := hF.cells
      have z0 := hF.frozen 0
      obtain ⟨⟨p1, q1⟩, ⟨p2, q2⟩, ⟨p3, q3⟩⟩ := hF.roads ⟨.int .i64 (a : Int), .int .i64 (b : Int), .slice none 0 0, .slice none 0 0⟩
      have hFd := hF.new (upon_drewN _ wr 1)
      obtain ⟨g0', g1', g2', g3'⟩ := hFd.cells
      have z0' := hFd.frozen 0
      obtain ⟨⟨p1', q1'⟩, ⟨p2', q2'⟩, ⟨p3', q3'⟩⟩ := hFd.roads ⟨.int .i64 (a : Int), .int .i64 (b : Int), .slice none 0 0, .slice none 0 0⟩
      obtain ⟨wz, hwz⟩ : ∃ wz, ((((wr.setCell ⟨w.heap.size, 0, none⟩ (.int .i64 (a : Int))).setCell ⟨w.heap.size, 1, none⟩ (.int .i64 (b : Int))).setCell ⟨w.heap.size, 2, none⟩ (.slice none 0 0)).setCell ⟨w.heap.size, 3, none⟩ (.slice none 0 0)) = wz := ⟨_, rfl⟩
      have hFz := hF.setAll ⟨.int .i64 (a : Int), .int .i64 (b : Int), .slice none 0 0, .slice none 0 0⟩
      have hUz : Upon (fun x => x = w.heap.size) wr wz := by rw [<- hwz]; exact upon_setQuad (U := fun x => x = w.heap.size) (Upon.refl _ _) (.inl rfl) ⟨.int .i64 (a : Int), .int .i64 (b : Int), .slice none 0 0, .slice none 0 0⟩
      obtain ⟨m0, m1, m2, m3⟩ := (hnb.out.upon hUz (fun e => hne e.symm)).cells
      simp only [List.getD_cons_zero, List.getD_cons_succ] at m0 m1 m2 m3
      unfold setQuad at hFz
      simp only at hFz
      rw [hwz] at hFz
      have hFe := Lib.hid ((hFz.new (upon_drewN _ wz 1)).cells)
      have hNz : Hid (New0 w (wz.drewN 1)) := Lib.hid ((by rw [<- hwz]; exact upon_setQuad hnw.out (.inr (Nat.le_refl _)) ⟨.int .i64 (a : Int), .int .i64 (b : Int), .slice none 0 0, .slice none 0 0⟩ : New0 w wz).trans (upon_drewN _ wz 1))
      rw [<- hwz] at m2 m3
      have hwz' : Hid ((((((wr.setCell ⟨w.heap.size, 0, none⟩ (.int .i64 (a : Int))).setCell ⟨w.heap.size, 1, none⟩ (.int .i64 (b : Int))).setCell ⟨w.heap.size, 2, none⟩ (.slice none 0 0)).setCell ⟨w.heap.size, 3, none⟩ (.slice none 0 0))).drew = wz.drewN 1) := Lib.hid (by rw [hwz]; rfl)
      have e0 : wr.drew.cell? ⟨g, 0, none⟩ = some (.int .u64 (a : Int)) := k0
      have e1 : wr.drew.cell? ⟨g, 1, none⟩ = some (.int .u64 (b : Int)) := k1
      have e2 : wr.drew.cell? ⟨g, 2, none⟩ = some (.int .u64 (c : Int)) := k2
      have e3 : wr.drew.cell? ⟨g, 3, none⟩ = some (.int .u64 (d : Int)) := k3
      clear hnb hnt hwz hF hUz m0 m1 hFz hFd
      go_wp2_with fail
      go_region
      all_goals
       go_wp2_with fail
       rw [hwz'.out]
       obtain ⟨r0, r1, r2, r3⟩ := hFe.out
       clear g0 g1 g2 g3 z0 p1 q1 p2 q2 p3 q3 g0' g1' g2' g3' z0' p1' q1' p2' q2' p3' q3'
       refine bodyPost_ret (v := .tuple #[.agg #[.int .i64 (a : Int), .int .i64 (b : Int), .slice none 0 0, .slice none 0 0], .int .u64 (c : Int), .int .u64 (d : Int), .bool true]) (by simp [results, Tryz.results49, go_sem, r0, r1, r2, r3]) rfl ?_
       exact ⟨a, b, c, d, true, rfl, hNz.out, fun h => (by cases h), fun _ => ⟨hfour.out, by omega, by omega⟩⟩
end Bk
end
section
open Go.RowKit Go.Sort
namespace Ck
open Bit Dsk Ob Dig
def lenE (n m : Nat) : Nat := if n < (m + 7) / 8 then 1 else if (m + 7) / 8 < n then 6 else 0
theorem up_even {m : Nat} (h : m % 8 = 0) : (m + 7) / 8 = m / 8 := by omega
theorem up_odd {m : Nat} (h : m % 8 ≠ 0) : (m + 7) / 8 = m / 8 + 1 := by omega
theorem ret_i {a b : Int} (h : a = b) : Ending.returned (.int .i64 a) = .returned (.int .i64 b) := by rw [h]
set_option maxHeartbeats 1600000 in
theorem len_any (w : World) (s : ByteArray) (m : Nat) (hs : s.size <= 140737488355328) (hm : m < 18446744073709551616) :
  Calls Tryz.prog 186 #[.string s, .int .u64 (m : Int)] w fun e w' => e = .returned (.int .i64 (lenE s.size m : Int)) /\ New0 w w' := by
 have i1 : IntKind.u64.wrap (s.size : Int) = (s.size : Int) := by rw [IntKind.wrap_u64]; omega
 have td : Int.tdiv (m : Int) 8 = ((m / 8 : Nat) : Int) := by rw [Int.tdiv_eq_ediv_of_nonneg (by omega)]; omega
 have tm : Int.tmod (m : Int) 8 = ((m % 8 : Nat) : Int) := by rw [Int.tmod_eq_emod_of_nonneg (by omega)]; omega
 have i2 : IntKind.u64.wrap ((m / 8 : Nat) : Int) = ((m / 8 : Nat) : Int) := by rw [IntKind.wrap_u64]; omega
 have i3 : IntKind.u64.wrap (((m / 8 : Nat) : Int) + 1) = ((m / 8 + 1 : Nat) : Int) := by rw [IntKind.wrap_u64]; omega
 by_cases h0 : m % 8 = 0
 ·have hup := up_even h0
  have hd : ((m : Int) % 8 != 0) = false := by rw [bne_eq_false_iff_eq]; omega
  by_cases h1 : s.size < m / 8
  ·have hr := Lib.hid (show lenE s.size m = 1 by unfold lenE; rw [hup, if_pos h1])
   clear hup
   have h1' : (s.size : Int) < (m : Int) / 8 := by omega
   go_enter Tryz.func186, Tryz.ntmps186
   go_wp2_with fail
   go_ret
   exact ⟨ret_i (by rw [hr.out]; rfl), Upon.refl _ _⟩
  ·by_cases h2 : m / 8 < s.size
   ·have hr := Lib.hid (show lenE s.size m = 6 by unfold lenE; rw [hup, if_neg h1, if_pos h2])
    clear hup
    have h1' : ¬ (s.size : Int) < (m : Int) / 8 := by omega
    have h2' : (m : Int) / 8 < (s.size : Int) := by omega
    go_enter Tryz.func186, Tryz.ntmps186
    go_wp2_with fail
    go_ret
    exact ⟨ret_i (by rw [hr.out]; rfl), Upon.refl _ _⟩
   ·have hr := Lib.hid (show lenE s.size m = 0 by unfold lenE; rw [hup, if_neg h1, if_neg h2])
    clear hup
    have h1' : ¬ (s.size : Int) < (m : Int) / 8 := by omega
    have h2' : ¬ (m : Int) / 8 < (s.size : Int) := by omega
    go_enter Tryz.func186, Tryz.ntmps186
    go_wp2_with fail
    go_ret
    exact ⟨ret_i (by rw [hr.out]; rfl), Upon.refl _ _⟩
 ·have hup := up_odd h0
  have hd : ((m : Int) % 8 != 0) = true := by rw [bne_iff_ne]; omega
  by_cases h1 : s.size < m / 8 + 1
  ·have hr := Lib.hid (show lenE s.size m = 1 by unfold lenE; rw [hup, if_pos h1])
   clear hup
   have h1' : (s.size : Int) < (m : Int) / 8 + 1 := by omega
   go_enter Tryz.func186, Tryz.ntmps186
   go_wp2_with fail
   go_ret
   exact ⟨ret_i (by rw [hr.out]; rfl), Upon.refl _ _⟩
  ·by_cases h2 : m / 8 + 1 < s.size
   ·have hr := Lib.hid (show lenE s.size m = 6 by unfold lenE; rw [hup, if_neg h1, if_pos h2])
    clear hup
    have h1' : ¬ (s.size : Int) < (m : Int) / 8 + 1 := by omega
    have h2' : (m : Int) / 8 + 1 < (s.size : Int) := by omega
    go_enter Tryz.func186, Tryz.ntmps186
    go_wp2_with fail
    go_ret
    exact ⟨ret_i (by rw [hr.out]; rfl), Upon.refl _ _⟩
   ·have hr := Lib.hid (show lenE s.size m = 0 by unfold lenE; rw [hup, if_neg h1, if_neg h2])
    clear hup
    have h1' : ¬ (s.size : Int) < (m : Int) / 8 + 1 := by omega
    have h2' : ¬ (m : Int) / 8 + 1 < (s.size : Int) := by omega
    go_enter Tryz.func186, Tryz.ntmps186
    go_wp2_with fail
    go_ret
    exact ⟨ret_i (by rw [hr.out]; rfl), Upon.refl _ _⟩
theorem byte_fill : ∀ b : Fin 256, ∀ k : Fin 8, (∀ j : Fin 8, k.val <= j.val -> b.val / 2 ^ (7 - j.val) % 2 = 0) ↔ b.val * 2 ^ k.val % 256 = 0 := by decide +kernel
theorem fill_last {R : List UInt8} {m n : Nat} (h1 : R.length = n + 1) (h2 : m / 8 = n) : Filled R m ↔ (R.getD n 0).toNat * 2 ^ (m % 8) % 256 = 0 := by
 have hb := byte_fill ⟨(R.getD n 0).toNat, (R.getD n 0).toNat_lt⟩ ⟨m % 8, by omega⟩
 simp only at hb
 rw [<- hb]
 constructor
 ·intro hf j hj
  have := hf (8 * n + j.val) (by omega) (by have := j.isLt; omega)
  have e := bitAt_num R (8 * n + j.val)
  rw [this, show (8 * n + j.val) / 8 = n by have := j.isLt; omega, show (8 * n + j.val) % 8 = j.val by have := j.isLt; omega] at e
  exact e.symm
 ·intro hj i hi1 hi2
  have e := bitAt_num R i
  rw [show i / 8 = n by omega] at e
  have := hj ⟨i % 8, by omega⟩ (by show m % 8 <= i % 8; omega)
  rw [this] at e
  cases hb : bitAt R i with
  | false => rfl
  | true => rw [hb] at e; cases e
theorem int_shl (a k : Nat) : ((a * 2 ^ k % 256 : Nat) : Int) = (a : Int) * 2 ^ k % 256 := by rw [Int.natCast_emod, Int.natCast_mul, Int.natCast_pow]; rfl
theorem fill_none {R : List UInt8} {m : Nat} (h : R.length = m / 8) : Filled R m := fun i h1 h2 => by omega
theorem last_byte {s : ByteArray} {n : Nat} (h : n < s.size) : s.data.toList.getD n 0 = s[n] := by
 rw [List.getD_eq_getElem?_getD, List.getElem?_eq_getElem (by rw [Array.length_toList]; exact h)]
 rfl
set_option maxHeartbeats 1600000 in
theorem filled_any (w : World) (s : ByteArray) (m : Nat) (hs : s.size <= 140737488355328) (h1 : m <= 8 * s.size) (h2 : s.size <= (m + 7) / 8) :
  Calls Tryz.prog 213 #[.string s, .int .i64 (m : Int)] w fun e w' => ∃ b : Bool, e = .returned (.bool b) /\ (b = true ↔ Filled s.data.toList m) /\ New0 w w' := by
 have hlen : s.data.toList.length = s.size := by rw [Array.length_toList]; rfl
 by_cases h0 : m % 8 = 0
 ·have hf := Lib.hid (fill_none (R := s.data.toList) (m := m) (by omega))
  have hd : ((m : Int) % 8 == 0) = true := by rw [beq_iff_eq]; omega
  clear hlen h2
  go_enter Tryz.func213, Tryz.ntmps213
  go_wp2_with fail
  go_ret
  exact ⟨true, rfl, ⟨fun _ => hf.out, fun _ => rfl⟩, Upon.refl _ _⟩
 ·have hf := fill_last (R := s.data.toList) (m := m) (n := s.size - 1) (by omega) (by omega)
  have hd : ((m : Int) % 8 == 0) = false := by rw [beq_eq_false_iff_ne]; omega
  have hlt : s.size - 1 < s.size := by omega
  have hpos : 1 <= s.size := by omega
  rw [last_byte hlt] at hf
  have hidx : wrap64 ((s.size : Int) - 1) = ((s.size - 1 : Nat) : Int) := by rw [IntWalk.wrap64_in _ (by omega)]; omega
  replace hf := Lib.hid hf
  clear hlen h2
  go_enter Tryz.func213, Tryz.ntmps213
  go_wp2_with fail
  go_ret
  refine ⟨_, rfl, ?_, Upon.refl _ _⟩
  rw [hf.out, beq_iff_eq, <- int_shl]
  exact Int.natCast_eq_zero
end Ck
end
section
open Go.RowKit Go.Sort
namespace Ck
open Bit Dsk Ob Dig
def GP (w : World) (n m : Nat) (R : List UInt8) (e : Ending) (w' : World) : Prop :=
 ∃ (v : Value) (l : List Pt) (x : Nat), e = .returned (.tuple #[v, .int .i64 (x : Int)]) /\ ((x = 0 /\ Whole n m R l) \/ (x ≠ 0 /\ x < 100 /\ l = [] /\ ∀ l', ¬ Whole n m R l')) /\ View w' All v l /\ New0 w w'
theorem GP.no {w w' : World} {n m x : Nat} {R : List UInt8} {y : Int} (hy : y = (x : Int)) (hx : x ≠ 0) (h100 : x < 100) (h : ∀ l', ¬ Whole n m R l') (hu : New0 w w') : GP w n m R (.returned (.tuple #[.slice none 0 0, .int .i64 y])) w' := by
 subst hy
 exact ⟨_, [], x, rfl, .inr ⟨hx, h100, rfl, h⟩, ⟨none, 0, rfl, Nat.le_refl _, Nat.zero_le _, fun h => absurd h (by simp)⟩, hu⟩
theorem rkBeside {I : Ob.Rel} (hI : Thing I) {s : ByteArray} {m : Nat} (hm : m <= 8 * s.size) {w0 w w' : World} {e : Ending} (H : Own I w0 w) (h : RMade s (ends s (m : Int)) w e w') : ∃ p, e = .returned (.pointer (some ⟨p, 0, none⟩)) /\ Own (Tens I (fun w S => IsRK w S p (bitsAt s.data.toList 0 m))) w0 w' := by
 rw [ends_in hm] at h
 obtain ⟨S, p, he, h2, h3, h4⟩ := h
 exact ⟨p, he, Own.new hI H ⟨s, 0, m, h2, by rw [Nat.sub_zero]⟩ h3 h4⟩
theorem pgStart {w0 w : World} {qt qv p : Nat} {K : List Bool} (H : Own (Tens (Tens (Tm.IsCd qt Tm.newC) (Xr.IsCd qv Xr.newC)) (fun w S => IsRK w S p K)) w0 w) : Own (PG qt qv p c0 K) w0 w :=
 H.mono fun _ h => Tens.assoc (Tens.mapL (fun _ k => Tens.swap k) h)
theorem rowMade {I : Ob.Rel} (hI : Thing I) {w0 w w' : World} {n : Nat} (H : Own I w0 w) (hrow : w'.ownsRow 0 153 2 (.slice (some ⟨w.heap.size, 0, none⟩) 0 n) 0 []) (hg : w.grownBy w' none) : Own (Tens I (RowO (.slice (some ⟨w.heap.size, 0, none⟩) 0 n) [])) w0 w' :=
 Own.new hI H (T := fun x => x = w.heap.size) ⟨hrow, fun x hx => (by simpa [Value.ownBlock, eq_comm] using hx), fun x hx => by rw [hx]; exact (World.ownsRow.lt hrow _ rfl).2⟩ (fun x hx => by rw [hx]; exact Nat.le_refl _) (Upon.grown (Upon.refl _ w) hg fun k hk => (by cases hk))
theorem rowAppend {I : Ob.Rel} (hI : Thing I) {w0 w w' : World} {v v' : Value} {l m : List Pt} (H : Own (Tens I (RowO v l)) w0 w) (hown : OwnPts w' v' m) (hg : w.grownBy w' v.ownBlock) (hb : v'.ownBlock = v.ownBlock \/ v'.ownBlock = some w.heap.size) : Own (Tens I (RowO v' m)) w0 w' := by
 obtain ⟨A, h, go⟩ := H.right hI
 exact go _ _ (h.append hown hg hb)
abbrev GJ (g qt qv : Nat) (v : Value) (l : List Pt) : Ob.Rel := Tens (Box2 g (ptr qt) (ptr qv) 251) (RowO v l)
theorem thingGJ (g qt qv : Nat) (v : Value) (l : List Pt) : Thing (GJ g qt qv v l) := Tens.ob (thingBox2 _ _ _ _) (thingRowO _ _)
theorem Gt_none {J : Ob.Rel} {w0 : World} {qt qv p : Nat} {c : C2} {K : List Bool} {e : Ending} {w' : World} (h : Gt J w0 qt qv p c K e w') (hr : rd1 c K = none) : e = .returned (.tuple #[.agg #[.int .i64 0, .int .u64 0], .bool false]) /\ Own J w0 w' := by
 unfold Gt at h; rw [hr] at h; exact h
theorem Gt_some {J : Ob.Rel} {w0 : World} {qt qv p : Nat} {c : C2} {K R : List Bool} {t : Int} {x : Nat} {e : Ending} {w' : World} (h : Gt J w0 qt qv p c K e w') (hr : rd1 c K = some ((t, x), R)) : e = .returned (.tuple #[ptv t x, .bool true]) /\ Own (PGJ qt qv p (stp c (t, x)) R J) w0 w' := by
 unfold Gt at h; rw [hr] at h; exact h
theorem Half.nx {i : Nat} {K0 K : List Bool} {l : List Pt} {t : Int} (h : Half i K0 l K) (hn : isNx l t = true) : ∀ k, i = k + 1 -> T l k < t := fun k hk => by
 have hl := h.len
 unfold isNx at hn
 rw [decide_eq_false (by omega), Bool.false_or, decide_eq_true_iff, show l.length - 1 = k by omega] at hn
 exact hn
theorem Half.nx_not {i : Nat} {K0 K : List Bool} {l : List Pt} {t : Int} (h : Half i K0 l K) (hn : isNx l t = false) : ∃ k, i = k + 1 /\ t <= T l k := by
 have hl := h.len
 unfold isNx at hn
 rw [Bool.or_eq_false_iff, decide_eq_false_iff_not, decide_eq_false_iff_not] at hn
 exact ⟨i - 1, by omega, by rw [show i - 1 = l.length - 1 by omega]; omega⟩
set_option maxHeartbeats 6400000 in
theorem points_gp (w : World) (s : ByteArray) (m n : Nat) (hs : s.size <= 140737488355328) (hm : m <= 8 * s.size) (hm2 : s.size <= (m + 7) / 8) (hn1 : 1 <= n) (hn : n <= 64) (hT : Tab w) :
  Calls Tryz.prog 187 #[.string s, .int .i64 (m : Int), .int .i64 (n : Int)] w (GP w n m s.data.toList) := by
 replace hT := Lib.hid hT
 have hF := Lib.hid (fun w => filled_any w s m hs hm hm2)
 have hslen : s.data.toList.length = s.size := by rw [Array.length_toList]; rfl
 have hle : Hid (m <= 8 * s.data.toList.length) := Lib.hid (by rw [hslen]; exact hm)
 have hfew : Hid (s.data.toList.length <= (m + 7) / 8) := Lib.hid (by rw [hslen]; exact hm2)
 have HR := Lib.hid (fun w => newReader_any s (m : Int) hs (by omega) w)
 obtain ⟨i0, hi, hz0, hz1, hz2⟩ := info_parts infoPt
 replace hm := Lib.hid hm
 clear hslen hm2
 go_enter Tryz.func187, Tryz.ntmps187
 go_wp2_with fail
 refine (mk_any w hT.out).mono ?_
 rintro e w1 ⟨qt, qv, rfl, h1⟩
 replace h1 := Lib.hid h1
 go_wp2_with fail
 refine (HR.out w1).mono ?_
 intro x w2 hx
 obtain ⟨p, rfl, h2⟩ := rkBeside (thingNew qt qv) hm.out h1.out hx
 have h3 := Lib.hid (box2Made (thingPG _ _ _ _ _) (pgStart h2) (ptr qt) (ptr qv) 251)
 clear hx h1 h2 HR
 go_wp2_with (refine wpList_make_own _ rfl _ _ _ rfl 0 153 i0 _ 2 Tryz.underlying61 hi hz0 hz1 _ _ _ n rfl rfl rfl ?mk1 ?mk2 (Nat.zero_le _) ?_)
 case mk1 => rw [hz2]; omega
 case mk2 => unfold maxLen; omega
 intro w4 hrow hg4
 have hu0 := (show ((w2.alloc (.cells #[ptr qt, ptr qv] 251 (0, 0))).heap.size = w2.heap.size + 1) by simp)
 rw [<- hu0] at hrow
 have h4 := Lib.hid (rowMade (Tens.ob (thingPG _ _ _ _ _) (thingBox2 _ _ _ _)) h3.out hrow hg4).assoc
 rw [hu0] at h4
 clear h3 hrow hg4 hu0 hi hz0 hz1 hz2
 go_wp2_with fail
 go_loopw [10, 20] (fun u ov wr => ∃ (i : Nat) (l : List Pt) (K : List Bool), ov = .int .i64 (i : Int) /\ i <= n /\ Hid (Half i (bitsAt s.data.toList 0 m) l K) /\ Hid (Own (PGJ qt qv p (stps c0 l) K (GJ w2.heap.size qt qv u l)) w wr)) (fun _ ov _ => n - (intOf ov).toNat)
 case atStart => exact ⟨0, [], _, rfl, Nat.zero_le _, Lib.hid (Half.start _), h4⟩
 case round =>
  obtain ⟨i, l, K, rfl, hii, hh, ho⟩ := hrel
  clear h4
  by_cases hlt : i < n
  ·have c0' := (box2Cells ho.out.dropl.dropr).c0
   have c1' := (box2Cells ho.out.dropl.dropr).c1
   obtain ⟨A8, c8, hu8, hc8, -⟩ := (rowSee ho.out.dropl.dropl).view.shape
   subst hu8
   have HP := Lib.hid (get_any (thingGJ _ _ _ _ _) hT.out ho.out hh.out.ok)
   clear ho
   cases hr : rd1 (stps c0 l) K with
   | none =>
    have hD := Lib.hid (hh.out.stop hlt hr)
    replace hr := Lib.hid hr
    clear hh
    go_wp2_with fail
    refine HP.out.mono ?_
    intro e w7 he
    obtain ⟨rfl, h7⟩ := Gt_none he hr.out
    have hu7 := Lib.hid (new0_of_bel h7.bel)
    clear HP he h7 c0' c1'
    go_wp2_with fail
    go_ret2
    exact GP.no (x := 3) rfl (by decide) (by decide) hD.out (hu7.out.trans ((Upon.refl _ w7).alloc _))
   | some z =>
    obtain ⟨⟨t, x⟩, R⟩ := z
    have h1 := Lib.hid hr
    clear hr
    go_wp2_with fail
    refine HP.out.mono ?_
    intro e w7 he
    obtain ⟨rfl, h7⟩ := Gt_some he h1.out
    clear HP he c0' c1'
    have hst : stp (stps c0 l) (t, x) = stps c0 (l ++ [(t, x)]) := (stps_snoc _ _ _).symm
    rw [hst] at h7
    have h8 := Lib.hid (box2Made (Tens.ob (thingPG _ _ _ _ _) (thingGJ _ _ _ _ _)) h7 (.int .i64 t) (.int .u64 (x : Int)) 153)
    clear h7 hst
    have q0 := (box2Cells h8.out.dropl).c0
    have q1 := (box2Cells h8.out.dropl).c1
    have hvw := (rowSee h8.out.dropr.dropl.dropl).view
    cases hnb : isNx l t with
    | false =>
     obtain ⟨k', rfl, hle2⟩ := hh.out.nx_not hnb
     have hD := Lib.hid (hh.out.fall hlt h1.out hle2)
     have HN := Lib.hid (hnb ▸ next_any _ _ _ l t x hvw)
     have hend := Lib.hid (new0_of_bel h8.out.bel)
     clear hvw h8 hh h1 hnb hle2
     go_wp2_with fail
     refine HN.out.mono ?_
     rintro e w9 ⟨rfl, hu9⟩
     have hend9 := Lib.hid (hend.out.trans hu9)
     clear HN hend hu9 q0 q1
     go_wp2_with fail
     go_ret2
     exact GP.no (x := 9) rfl (by decide) (by decide) hD.out hend9.out
    | true =>
     have hnx := Lib.hid (hh.out.next h1.out (hh.out.nx hnb))
     have HN := Lib.hid (hnb ▸ next_any _ _ _ l t x hvw)
     have hll : l.length <= 64 := by have := hh.out.len; omega
     have hI := Lib.hid (fun w' hu => Own.upon0 (Tens.ob (Tens.ob (thingPG _ _ _ _ _) (thingGJ _ _ _ _ _)) (thingBox2 _ _ _ _)) h8.out (w' := w') hu)
     clear hvw h8 hh h1 hnb
     go_wp2_with fail
     refine HN.out.mono ?_
     rintro e w9 ⟨rfl, hu9⟩
     have h9 := Lib.hid (hI.out _ hu9)
     clear HN hI hu9 q0 q1
     have q0 := (box2Cells h9.out.dropl).c0
     have q1 := (box2Cells h9.out.dropl).c1
     have hal : New0 w9 (w9.alloc (.cells #[.int .i64 t, .int .u64 (x : Int)] 153 (0, 0))) := (Upon.refl _ w9).alloc _
     have hA := Lib.hid (Own.upon0 (Tens.ob (thingPG _ _ _ _ _) (thingGJ _ _ _ _ _)) h9.out.dropr hal).cossa
     have hown := Lib.hid (rowSee hA.out.dropl)
     clear h9 hal
     go_wp2_with (at_builtin; refine wpList_append_pts rfl _ _ rfl _ _ l [(t, x)] All rfl rfl hown.out (view_one (y := x) (cell_new w9 _)) (by rw [List.length_singleton]; omega) ?_)
     intro u' w10 hown' hgr hb
     have h10 := Lib.hid (rowAppend (Tens.ob (thingPG _ _ _ _ _) (thingBox2 _ _ _ _)) hA.out hown' hgr (hb.imp id fun h => h.trans (by simp))).assoc
     clear hown' hgr hb hA hown q0 q1
     go_wp2_with fail
     go_roundw
     case rel => exact ⟨i + 1, _, _, by go_num, hlt, hnx, h10⟩
     case measure => simp [intOf]; omega
  ·obtain rfl : i = n := by omega
   have hend := Lib.hid (new0_of_bel ho.out.bel)
   have hrow := Lib.hid (rowSee ho.out.dropl.dropl).view.all
   have HL := Lib.hid (pgLeft ho.out)
   clear ho
   by_cases hK : K = []
   ·subst hK
    have hwh := Lib.hid (fun hf => hh.out.whole hle.out hfew.out hf)
    have hno := Lib.hid (fun (hf : ¬ Filled s.data.toList m) (l' : List Pt) (h' : Whole i m s.data.toList l') => hf h'.fill)
    clear hh
    go_wp2_with fail
    refine HL.out.mono ?_
    rintro e w7 ⟨rfl, nq, rfl⟩
    clear HL
    go_wp2_with fail
    refine (hF.out _).mono ?_
    rintro e w8 ⟨bb, rfl, hbb, hu8⟩
    have hend8 := Lib.hid (hend.out.trans ((upon_drewN _ wr nq).trans hu8))
    have hrow8 := Lib.hid ((hrow.out.drew (n := nq)).new hu8)
    clear hF hrow hend hu8
    cases bb with
    | true =>
     have hD := Lib.hid (hwh.out (hbb.1 rfl))
     clear hwh hno hbb
     go_wp2_with fail
     go_ret2
     exact ⟨_, l, 0, rfl, .inl ⟨rfl, hD.out⟩, hrow8.out, hend8.out⟩
    | false =>
     have hD := Lib.hid (hno.out (fun hf => by have := hbb.2 hf; cases this))
     clear hwh hno hbb
     go_wp2_with fail
     go_ret2
     exact GP.no (x := 3) rfl (by decide) (by decide) hD.out hend8.out
   ·have hD := Lib.hid (hh.out.left hK)
    have hKl : 0 < K.length := List.length_pos_iff.2 hK
    have dK : decide (0 < K.length) = true := decide_eq_true hKl
    clear hh hK
    go_wp2_with fail
    refine HL.out.mono ?_
    rintro e w7 ⟨rfl, nq, rfl⟩
    have hend8 := Lib.hid (hend.out.trans (upon_drewN _ wr nq))
    clear HL hend
    go_wp2_with fail
    go_ret2
    exact GP.no (x := 3) rfl (by decide) (by decide) hD.out hend8.out
end Ck
end
section
open Go.RowKit Go.Sort
namespace Ck
open Bit Dsk Ob Dig
def Dd (s : ByteArray) (w : World) (e : Ending) (w' : World) : Prop := ∃ (v : Value) (l : List Pt) (x : Nat), e = .returned (.tuple #[v, .int .i64 (x : Int)]) /\ Dec s.data.toList l x /\ View w' All v l /\ New0 w w'
theorem Dd.no {s : ByteArray} {w w' : World} {x : Nat} (h : Dec s.data.toList [] x) (hu : New0 w w') : Dd s w (.returned (.tuple #[.slice none 0 0, .int .i64 (x : Int)])) w' :=
 ⟨_, [], x, rfl, h, ⟨none, 0, rfl, Nat.le_refl _, Nat.zero_le _, fun h => absurd h (by simp)⟩, hu⟩
theorem Dd.no2 {s : ByteArray} {w w' : World} {x : Nat} {y : Int} (h : Dec s.data.toList [] x) (hy : y = (x : Int)) (hu : New0 w w') : Dd s w (.returned (.tuple #[.slice none 0 0, .int .i64 y])) w' := hy ▸ Dd.no h hu
theorem got_small {s : List UInt8} {n k e : Nat} (h : gotN s = (n, k, e)) : n < 18446744073709551616 /\ k <= s.length /\ e < 100 := by
 have := gotN_lt s
 rw [h] at this
 obtain ⟨h1, -, h2, h3⟩ := this
 exact ⟨h1, h2, by simp only at h3; omega⟩
theorem drop_bytes (s : ByteArray) (k : Nat) (h : k <= s.size) : (s.extract k s.size).data.toList = s.data.toList.drop k := by
 rw [extract_list, List.take_of_length_le (by rw [Array.length_toList]; exact Nat.le_refl _)]
theorem drop_size (s : ByteArray) (k : Nat) : (s.extract k s.size).size = s.size - k := by rw [ByteArray.size_extract]; omega
theorem GP.dd {s : ByteArray} {R : List UInt8} {w w3 w' : World} {n k m j : Nat} {e : Ending} (f : Found s.data.toList n k m j R) (h1 : 1 <= n) (h64 : n <= 64) (h : GP w3 n m R e w') (hu : New0 w w3) : ∃ (v : Value) (x : Nat), e = .returned (.tuple #[v, .int .i64 (x : Int)]) /\ Dd s w (.returned (.tuple #[v, .int .i64 (x : Int)])) w' := by
 obtain ⟨v, l, x, he, hx, hv, hu'⟩ := h
 refine ⟨v, x, he, v, l, x, rfl, ?_, hv, hu.trans hu'⟩
 rcases hx with ⟨rfl, hw⟩ | ⟨h0, h100, rfl, hw⟩
 ·exact dec_ok f h1 h64 hw
 ·exact dec_rest f h0 h100 hw
theorem lenE_up {n m : Nat} (h : lenE n m = 0) : m <= 8 * n /\ n <= (m + 7) / 8 := by
 unfold lenE at h
 split at h
 ·cases h
 ·split at h
  ·cases h
  ·omega
theorem lenE_bad {R : List UInt8} {n m : Nat} (h : lenE R.length m ≠ 0) (l : List Pt) : ¬ Whole n m R l := fun hw => by
 have h1 := hw.le
 have h2 := hw.few
 unfold lenE at h
 rw [if_neg (by omega), if_neg (by omega)] at h
 exact h rfl
theorem lenE_few (n m : Nat) : lenE n m < 100 := by
 unfold lenE
 split
 ·decide
 ·split <;> decide
set_option maxHeartbeats 6400000 in
theorem decode_dd (w : World) (s : ByteArray) (hs : s.size <= 140737488355328) (hT : Tab w) :
  Calls Tryz.prog 150 #[.string s] w (Dd s w) := by
 obtain ⟨n, k, e, hg1⟩ : ∃ n k e, gotN s.data.toList = (n, k, e) := ⟨_, _, _, rfl⟩
 have hslen : s.data.toList.length = s.size := by rw [Array.length_toList]; rfl
 obtain ⟨hn, hk, he100⟩ := got_small hg1
 rw [hslen] at hk
 have HG1 := Lib.hid (get_is s (by omega) n k e hg1 w)
 replace hT := Lib.hid hT
 by_cases he : e = 0
 ·subst he
  by_cases hr : n < 1 \/ 64 < n
  ·have hD := Lib.hid (dec_range hg1 hr)
   clear hg1
   rcases hr with hr | hr
   ·have d1 : decide ((n : Int) < 1) = true := decide_eq_true (by omega)
    go_enter Tryz.func150, Tryz.ntmps150
    go_wp2_with fail
    refine HG1.out.mono ?_
    rintro e w2 ⟨rfl, hb2⟩
    replace hb2 := Lib.hid hb2
    clear HG1
    go_wp2_with fail
    go_ret2
    exact Dd.no2 hD.out rfl (new0_of_bel hb2.out)
   ·have d1 : decide ((n : Int) < 1) = false := decide_eq_false (by omega)
    have d2 : decide ((64 : Int) < (n : Int)) = true := decide_eq_true (by omega)
    go_enter Tryz.func150, Tryz.ntmps150
    go_wp2_with fail
    refine HG1.out.mono ?_
    rintro e w2 ⟨rfl, hb2⟩
    replace hb2 := Lib.hid hb2
    clear HG1
    go_wp2_with fail
    go_ret2
    exact Dd.no2 hD.out rfl (new0_of_bel hb2.out)
  ·have d1 : decide ((n : Int) < 1) = false := decide_eq_false (by omega)
   have d2 : decide ((64 : Int) < (n : Int)) = false := decide_eq_false (by omega)
   obtain ⟨s1, hs1⟩ : ∃ s1, s.extract k s.size = s1 := ⟨_, rfl⟩
   have hl1 : s1.data.toList = s.data.toList.drop k := by rw [<- hs1, drop_bytes s k hk]
   have hz1 : s1.size = s.size - k := by rw [<- hs1, drop_size]
   obtain ⟨m, j, e2, hg2⟩ : ∃ m j e2, gotN (s.data.toList.drop k) = (m, j, e2) := ⟨_, _, _, rfl⟩
   obtain ⟨hm, hj, he2⟩ := got_small hg2
   rw [List.length_drop, hslen] at hj
   have HG2 := Lib.hid (fun w => get_is s1 (by omega) m j e2 (by rw [hl1]; exact hg2) w)
   by_cases hee : e2 = 0
   ·subst hee
    obtain ⟨s2, hs2⟩ : ∃ s2, s1.extract j s1.size = s2 := ⟨_, rfl⟩
    have hl2 : s2.data.toList = (s.data.toList.drop k).drop j := by rw [<- hs2, drop_bytes s1 j (by omega), hl1]
    have hz2 : s2.size = s.size - k - j := by rw [<- hs2, drop_size s1 j, hz1]
    have f : Found s.data.toList n k m j s2.data.toList := ⟨hg1, hg2, hl2.symm⟩
    have hR : s2.data.toList.length = s2.size := by rw [Array.length_toList]; rfl
    clear hl1 hl2 hg1 hg2
    have hz : s2.size <= 140737488355328 := by omega
    replace hj : j <= s1.size := by omega
    clear hz1 hz2 hslen
    replace f := Lib.hid f
    have HC := Lib.hid (fun w => len_any w s2 m hz hm)
    have hn1 : 1 <= n /\ n <= 64 := by omega
    by_cases hle : lenE s2.size m = 0
    ·obtain ⟨hup, hfew⟩ := lenE_up hle
     rw [hle] at HC
     have HP := Lib.hid (fun w3 hT3 => points_gp w3 s2 m n hz hup hfew hn1.1 hn1.2 hT3)
     have i1 : IntKind.i64.wrap (m : Int) = (m : Int) := by rw [IntKind.wrap_i64]; omega
     have i2 : IntKind.i64.wrap (n : Int) = (n : Int) := by rw [IntKind.wrap_i64]; omega
     have hend := Lib.hid (fun (e : Ending) (w3 w' : World) (hu : New0 w w3) (h : GP w3 n m s2.data.toList e w') => GP.dd f.out hn1.1 hn1.2 h hu)
     clear hR hle hup hfew f
     go_enter Tryz.func150, Tryz.ntmps150
     go_wp2_with fail
     refine HG1.out.mono ?_
     rintro e w2 ⟨rfl, hb2⟩
     have hu2 := Lib.hid (new0_of_bel hb2)
     clear HG1 hb2
     go_wp2_with fail
     refine (HG2.out _).mono ?_
     rintro e w3 ⟨rfl, hb3⟩
     have hu3 := Lib.hid (hu2.out.trans (new0_of_bel hb3))
     clear HG2 hb3 hu2
     go_wp2_with fail
     refine (HC.out _).mono ?_
     rintro e w4 ⟨rfl, hb4⟩
     have hu4 := Lib.hid (hu3.out.trans hb4)
     clear HC hb4 hu3
     go_wp2_with fail
     refine (HP.out w4 (hT.out.new hu4.out)).mono ?_
     intro e w5 hgp
     obtain ⟨v, x, rfl, hD⟩ := hend.out e w4 w5 hu4.out hgp
     replace hD := Lib.hid hD
     clear HP hgp hend
     go_wp2_with fail
     go_ret2
     exact hD.out
    ·have hD := Lib.hid (dec_rest (e := lenE s2.size m) f.out hle (lenE_few _ _) (fun l => lenE_bad (by rw [hR]; exact hle) l))
     obtain ⟨q, hq⟩ : ∃ q, lenE s2.size m = q := ⟨_, rfl⟩
     rw [hq] at hle HC hD
     have d3 : ((q : Int) != 0) = true := by rw [bne_iff_ne]; omega
     clear hR f hq
     go_enter Tryz.func150, Tryz.ntmps150
     go_wp2_with fail
     refine HG1.out.mono ?_
     rintro e w2 ⟨rfl, hb2⟩
     have hu2 := Lib.hid (new0_of_bel hb2)
     clear HG1 hb2
     go_wp2_with fail
     refine (HG2.out _).mono ?_
     rintro e w3 ⟨rfl, hb3⟩
     have hu3 := Lib.hid (hu2.out.trans (new0_of_bel hb3))
     clear HG2 hb3 hu2
     go_wp2_with fail
     refine (HC.out _).mono ?_
     rintro e w4 ⟨rfl, hb4⟩
     have hu4 := Lib.hid (hu3.out.trans hb4)
     clear HC hb4 hu3
     go_wp2_with fail
     go_ret2
     exact Dd.no2 hD.out rfl hu4.out
   ·have hD := Lib.hid (dec_two hg1 hg2 hee he2)
    have d3 : ((e2 : Int) != 0) = true := by rw [bne_iff_ne]; omega
    clear hg1 hg2 hl1
    go_enter Tryz.func150, Tryz.ntmps150
    go_wp2_with fail
    refine HG1.out.mono ?_
    rintro e w2 ⟨rfl, hb2⟩
    replace hb2 := Lib.hid hb2
    clear HG1
    go_wp2_with fail
    refine (HG2.out _).mono ?_
    rintro e w3 ⟨rfl, hb3⟩
    have hu3 := Lib.hid ((new0_of_bel hb2.out).trans (new0_of_bel hb3))
    clear HG2 hb3 hb2
    go_wp2_with fail
    go_ret2
    exact Dd.no hD.out hu3.out
 ·have hD := Lib.hid (dec_one hg1 he he100)
  have d0 : ((e : Int) != 0) = true := by rw [bne_iff_ne]; omega
  clear hg1
  go_enter Tryz.func150, Tryz.ntmps150
  go_wp2_with fail
  refine HG1.out.mono ?_
  rintro e w2 ⟨rfl, hb2⟩
  replace hb2 := Lib.hid hb2
  clear HG1
  go_wp2_with fail
  go_ret2
  exact Dd.no hD.out (new0_of_bel hb2.out)
theorem decode_any (w : World) (s : ByteArray) (hs : s.size <= 140737488355328) (hT : Tab w) :
  Calls Tryz.prog 150 #[.string s] w fun e w' => ∃ (v : Value) (l : List Pt) (x : Nat), e = .returned (.tuple #[v, .int .i64 (x : Int)]) /\ Dec s.data.toList l x /\ View w' All v l /\ New0 w w' := decode_dd w s hs hT
end Ck
end
section
open Go.RowKit Go.Sort
namespace Bk
open Bit Dsk Ob Dig
def strSz : Value -> Nat
 | .string s => s.size
 | _ => 0
structure PtsL (w0 : World) (sz : Nat) (sl : List UInt8) (w : World) (u : Value) (l : List Pt) (s : ByteArray) : Prop where
 row : Rw.Mine Hd.layP 153 w u l
 base : ∀ g, u.ownBlock = some g -> w0.heap.size <= g
 got : GotTo sl l s.data.toList
 few : l.length + 64 * s.size <= 64 * sz
 new : New0 w0 w
theorem PtsL.upon {w0 w w' : World} {sz : Nat} {sl : List UInt8} {u : Value} {l : List Pt} {s : ByteArray} (h : PtsL w0 sz sl w u l s) (hu : New0 w w') : PtsL w0 sz sl w' u l s := ⟨h.row.new hu, h.base, h.got, h.few, h.new.trans hu⟩
theorem PtsL.start (w0 : World) (s : ByteArray) : PtsL w0 s.size s.data.toList w0 (.slice none 0 0) [] s := ⟨Rw.Mine.nil _ _ _, fun g hg => (by cases hg), GotTo.start _, by simp, Upon.refl _ _⟩
theorem PtsL.add {w0 w w' : World} {sz : Nat} {sl : List UInt8} {u u' : Value} {l p : List Pt} {s t r : ByteArray} (h : PtsL w0 sz sl w u l s) (hm : Rw.Mine Hd.layP 153 w' u' (l ++ p)) (hg : w.grownBy w' u.ownBlock) (hb : u'.ownBlock = u.ownBlock \/ u'.ownBlock = some w.heap.size)
  (hl : l.length % 64 = 0) (ht : Rc.txtR 65536 s.data.toList = .ok (t, r.data.toList)) (hp : Ck.enc p = (t.data.toList, 0)) (hin : ∀ q ∈ p, Ck.PtIn q) : PtsL w0 sz sl w' u' (l ++ p) r := by
 refine ⟨hm, own_base h.new.size h.base hb, h.got.step hl ht hp hin, ?_, Upon.grown h.new hg fun g hg => .inr (h.base g hg)⟩
 have h1 := (part_of_enc hin hp).1.few
 have h2 := congrArg List.length (txt_back ht)
 rw [List.length_append, txtL, List.length_append, numL_length] at h2
 simp only [Frm.size_list] at h2
 have h3 := h.few
 rw [List.length_append]
 omega
theorem PtsL.few2 {w0 w : World} {sz : Nat} {sl : List UInt8} {u : Value} {l : List Pt} {s : ByteArray} (h : PtsL w0 sz sl w u l s) : l.length <= 64 * sz := by have := h.few; omega
set_option maxHeartbeats 6400000 in
theorem ppts_any (w : World) (s : ByteArray) (hs : s.size <= 65536) (hT : TabA w) :
    Calls Tryz.prog 103 #[.string s] w (PtsE w s.data.toList) := by
  obtain ⟨sz, hsz⟩ : ∃ sz, s.size = sz := ⟨_, rfl⟩
  obtain ⟨sl, hsl⟩ : ∃ sl, s.data.toList = sl := ⟨_, rfl⟩
  have h0 := PtsL.start w s
  rw [hsz, hsl] at h0
  rw [hsl]
  rw [hsz] at hs
  replace h0 := Lib.hid h0
  have hT' := Lib.hid (fun w' (hu : New0 w w') => hT.new hu)
  clear hT hsl
  go_enter Tryz.func103, Tryz.ntmps103
  go_wp2_with fail
  go_loopw [0, 4] (fun s0 s4 wr => ∃ (sx : ByteArray) (l : List Pt), s0 = .string sx /\ Hid (PtsL w sz sl wr s4 l sx)) (fun s0 _ _ => strSz s0)
  case atStart => exact ⟨s, [], rfl, h0⟩
  case round =>
    clear h0 hsz
    obtain ⟨sx, l, rfl, h⟩ := hrel
    obtain ⟨Au, cu, rfl, -, -⟩ := h.out.row.view.shape
    have hfew := h.out.few
    cases hb6 : sx.toList.isEmpty with
    | true =>
      have hnil := empty_list hb6
      have hend : Hid (PtsE w sl (.returned (.tuple #[.slice Au l.length cu, .bool true])) wr) := Lib.hid (by
        refine ⟨⟨Au, l.length, cu⟩, l, true, rfl, h.out.new, fun h => (by cases h), fun _ => ⟨h.out.row.view.mono fun b _ hb => h.out.base b hb, ?_⟩⟩
        have := h.out.got
        rw [hnil] at this
        exact this)
      clear h hnil
      go_wp2_with fail
      go_ret2
      exact hend.out
    | false =>
      have hne := Lib.hid (nonempty_list hb6)
      by_cases hl : l.length % 64 = 0
      · have d1 : ((l.length : Int).tmod 64 != 0) = false := by rw [bne_eq_false_iff_eq, <- show ((l.length % 64 : Nat) : Int) = (l.length : Int).tmod 64 from Int.ofNat_tmod l.length 64]; omega
        obtain ⟨n, k, x, hg⟩ : ∃ n k x, gotT sx.data.toList 65536 = (n, k, x) := ⟨_, _, _, rfl⟩
        obtain ⟨t, ht⟩ : ∃ t, sx.extract k (k + n) = t := ⟨_, rfl⟩
        have hk := Lb.gotT_le hg
        have HG := Lib.hid (gettext_is sx 65536 (by omega) (by decide) n k x hg t ht wr)
        by_cases hx : x = 0
        · subst hx
          have htx := Lib.hid (txt_ok2 hg ht)
          have hts : t.size <= 65536 := by
            have := congrArg List.length (txt_back htx.out)
            rw [List.length_append, txtL, List.length_append, Frm.size_list, Frm.size_list] at this
            omega
          rw [Frm.size_list] at hk
          clear hg ht
          go_wp2_with fail
          refine HG.out.mono ?_
          rintro e w2 ⟨rfl, hb2⟩
          have hu2 := newOf hb2
          have h2 := Lib.hid (h.out.upon hu2)
          have HD := Lib.hid (Ck.decode_any w2 t (by omega) (hT'.out _ h2.out.new).c)
          clear HG h hb2 hu2
          go_wp2_with fail
          refine HD.out.mono ?_
          rintro e w3 ⟨v, p, x, rfl, hd, hv, hu3⟩
          have h3 := Lib.hid (h2.out.upon hu3)
          clear HD h2 hu3
          rcases hd with ⟨rfl, he, hin⟩ | ⟨hx, -, rfl, hno⟩
          · have hp1 := (part_of_enc hin he).1.few
            obtain ⟨Ap, cp, rfl, -, -⟩ := Ck.View.shape hv
            have hv3 := Lib.hid (ptsOf hv)
            have hadd := Lib.hid (fun w4 v' (hm : Rw.Mine Hd.layP 153 w4 v' (l ++ p)) (hg : w3.drew.grownBy w4 _) hb => (h3.out.upon (upon_drewN _ w3 1)).add (w := w3.drew) (r := sx.extract (k + n) sx.size) hm hg hb hl (by rw [rest_list]; exact htx.out) he hin)
            have hlb := h3.out.few2
            have hb0 : (0 : Int) <= (k : Int) + (n : Int) := by omega
            have hb1 : (k : Int) + (n : Int) <= (sx.size : Int) := by omega
            have htn : ((k : Int) + (n : Int)).toNat = k + n := by omega
            have hm3 := Lib.hid h3.out.row
            have hxs : (sx.extract (k + n) sx.size).size < sx.size := by
              have := congrArg List.length (txt_back htx.out)
              rw [List.length_append, txtL, List.length_append, numL_length, List.length_drop, Frm.size_list, Frm.size_list] at this
              rw [ByteArray.size_extract]
              omega
            have hxs2 : sx.size - (k + n) < sx.size := by have := hxs; rw [ByteArray.size_extract] at this; omega
            clear hv h3
            go_wp2_with fail
            go_region_law (first
              | (refine Rw.step_append Hd.typP (o := ⟨some 32, _, _, _, _, _⟩) (by rfl) _ _ (by rfl) (.slice Au l.length cu) _ l p Ck.All (by rfl) (by rfl) (hm3.out.new (by repeat (first | assumption | exact Upon.refl _ _ | refine Upon.drew ?_ | refine Upon.alloc ?_ _))) (Rw.View.new hv3.out (by repeat (first | assumption | exact Upon.refl _ _ | refine Upon.drew ?_ | refine Upon.alloc ?_ _))) (by omega) (by omega) ?_
                 intro v4 w4 hm4 hg4 hb4
                 have h4 := Lib.hid (hadd.out w4 v4 hm4 hg4 hb4)
                 clear hm4 hg4 hb4))
            all_goals
              go_simp
              go_wp2_with fail
              go_roundw
              case rel => exact ⟨_, _, rfl, h4⟩
              case measure => simp [strSz]; omega
          · have hend : Hid (PtsE w sl (.returned (.tuple #[.slice none 0 0, .bool false])) w3) := Lib.hid ⟨⟨none, 0, 0⟩, [], false, rfl, h3.out.new, fun _ => h3.out.got.dec hne.out htx.out hno, fun h => by cases h⟩
            have dx : ((x : Int) != 0) = true := by rw [bne_iff_ne]; omega
            clear hv h3
            go_wp2_with fail
            go_ret2
            exact hend.out
        · have dx : ((x : Int) != 0) = true := by rw [bne_iff_ne]; omega
          have hno := Lib.hid (h.out.got.txt hne.out (txt_no2 hg hx))
          clear hg ht
          go_wp2_with fail
          refine HG.out.mono ?_
          rintro e w2 ⟨rfl, hb2⟩
          have hend : Hid (PtsE w sl (.returned (.tuple #[.slice none 0 0, .bool false])) w2) := Lib.hid ⟨⟨none, 0, 0⟩, [], false, rfl, h.out.new.trans (newOf hb2), fun _ => hno.out, fun h => by cases h⟩
          clear HG h hb2
          go_wp2_with fail
          go_ret2
          exact hend.out
      · have d1 : ((l.length : Int).tmod 64 != 0) = true := by rw [bne_iff_ne, <- show ((l.length % 64 : Nat) : Int) = (l.length : Int).tmod 64 from Int.ofNat_tmod l.length 64]; omega
        have hend : Hid (PtsE w sl (.returned (.tuple #[.slice none 0 0, .bool false])) wr) := Lib.hid ⟨⟨none, 0, 0⟩, [], false, rfl, h.out.new, fun _ => h.out.got.full hne.out hl, fun h => by cases h⟩
        clear h
        go_wp2_with fail
        go_ret2
        exact hend.out
end Bk
end
end Go.Proofs.YtgmnhodajngchaaGreatDoor
