/- Parts: BkPure. -/
import Derived.Test.YtgmnhodajngchaaGreatDoorSPFrame
import Derived.Test.YtgmnhodajngchaaGreatDoorSPCk1
import Derived.Test.YtgmnhodajngchaaGreatDoorSPRc1
import Derived.Test.YtgmnhodajngchaaGreatDoorSPHd1
set_option maxRecDepth 100000
set_option linter.unusedVariables false
namespace Go.Proofs.YtgmnhodajngchaaGreatDoor
section
namespace Bk
open Bit Dig
abbrev Pt := Int × Nat
abbrev Row := Hd.Row
structure B where
 first : Int
 til : Int
 rows : List Row
 dels : List Rc.R
def zero : B := ⟨0, 0, [], []⟩
def ferr (f : Nat -> Nat) : Nat -> Nat
 | 0 => 0
 | n + 1 => if ferr f n ≠ 0 then ferr f n else f n
theorem ferr_zero {f : Nat -> Nat} : ∀ {n : Nat}, ferr f n = 0 ↔ ∀ i, i < n -> f i = 0
 | 0 => by simp [ferr]
 | n + 1 => by
  have ih := ferr_zero (f := f) (n := n)
  rw [ferr]
  by_cases h : ferr f n = 0
  ·rw [if_neg (by simp [h])]
   constructor
   ·intro k i hi
    rcases Nat.lt_succ_iff_lt_or_eq.1 hi with hi | rfl
    ·exact ih.1 h i hi
    ·exact k
   ·intro k; exact k n (by omega)
  ·rw [if_pos h]
   constructor
   ·intro k; exact absurd k h
   ·intro k; exact ih.2 fun i hi => k i (by omega)
theorem ferr_at {f : Nat -> Nat} {j : Nat} (h : ∀ i, i < j -> f i = 0) (hz : f j ≠ 0) : ∀ {n : Nat}, j < n -> ferr f n = f j
 | 0, hj => by omega
 | n + 1, hj => by
  rw [ferr]
  by_cases e : j = n
  ·rw [<- e, if_neg (by simp [ferr_zero.2 h])]
  ·have ih := ferr_at h hz (n := n) (by omega)
   rw [ih, if_pos hz]
structure PtsOk (r : Row) : Prop where
 rise : Ck.Rises r.pts r.pts.length
 le : ∀ p ∈ r.pts, p.1 <= r.last
def Behind (l : List Row) (i : Nat) : Prop := ∀ k (h : i < l.length), i = k + 1 -> ∀ h2 : k < l.length, Lb.cmp l[k].lab l[i].lab < 0
open Classical in
noncomputable def rowErr (l : List Row) (i : Nat) : Nat :=
 match l[i]? with
 | none => 0
 | some r => if Lb.chk r.lab ≠ 0 then 16 else if ¬ Behind l i then 9 else if ¬ PtsOk r then 9 else 0
theorem rowErr_lab {l : List Row} {i : Nat} (h : i < l.length) (hl : ¬ Lb.Ok l[i].lab) : rowErr l i = 16 := by
 rw [rowErr, List.getElem?_eq_getElem h]; simp only
 rw [if_pos (by rw [Lb.chk_no hl]; decide)]
theorem rowErr_ord {l : List Row} {i : Nat} (h : i < l.length) (hl : Lb.Ok l[i].lab) (hb : ¬ Behind l i) : rowErr l i = 9 := by
 rw [rowErr, List.getElem?_eq_getElem h]; simp only
 rw [if_neg (by rw [Lb.chk_ok hl]; decide), if_pos hb]
theorem rowErr_pts {l : List Row} {i : Nat} (h : i < l.length) (hl : Lb.Ok l[i].lab) (hp : ¬ PtsOk l[i]) : rowErr l i = 9 := by
 by_cases hb : Behind l i
 ·rw [rowErr, List.getElem?_eq_getElem h]; simp only
  rw [if_neg (by rw [Lb.chk_ok hl]; decide), if_neg (by simpa using hb), if_pos hp]
 ·exact rowErr_ord h hl hb
theorem rowErr_ok {l : List Row} {i : Nat} (h : i < l.length) (hl : Lb.Ok l[i].lab) (hb : Behind l i) (hp : PtsOk l[i]) : rowErr l i = 0 := by
 rw [rowErr, List.getElem?_eq_getElem h]; simp only
 rw [if_neg (by rw [Lb.chk_ok hl]; decide), if_neg (by simpa using hb), if_neg (by simpa using hp)]
theorem rowErr_zero {l : List Row} {i : Nat} (h : i < l.length) (h0 : rowErr l i = 0) : Lb.Ok l[i].lab /\ Behind l i /\ PtsOk l[i] := by
 by_cases h1 : Lb.Ok l[i].lab
 ·by_cases h2 : Behind l i
  ·by_cases h3 : PtsOk l[i]
   ·exact ⟨h1, h2, h3⟩
   ·rw [rowErr_pts h h1 h3] at h0; cases h0
  ·rw [rowErr_ord h h1 h2] at h0; cases h0
 ·rw [rowErr_lab h h1] at h0; cases h0
def DelOk (r : Rc.R) : Prop := r.kind = 2 /\ Rc.chk r = 0
def badSpan (b : B) : Prop := b.first < 1 \/ 99999999 < b.til \/ b.til < b.first
open Classical in
noncomputable def chk (b : B) : Nat := if badSpan b then 2 else if ferr (rowErr b.rows) b.rows.length ≠ 0 then ferr (rowErr b.rows) b.rows.length else if ∀ r ∈ b.dels, DelOk r then 0 else 5
theorem chk_span {b : B} (h : badSpan b) : chk b = 2 := if_pos h
theorem chk_row {b : B} (h : ¬ badSpan b) {j : Nat} (hj : j < b.rows.length) (hb : ∀ i, i < j -> rowErr b.rows i = 0) (he : rowErr b.rows j ≠ 0) : chk b = rowErr b.rows j := by
 have e := ferr_at hb he hj
 unfold chk; rw [if_neg h, e, if_pos he]
theorem chk_del {b : B} (h : ¬ badSpan b) (hb : ∀ i, i < b.rows.length -> rowErr b.rows i = 0) {r : Rc.R} (hr : r ∈ b.dels) (hn : ¬ DelOk r) : chk b = 5 := by
 unfold chk; rw [if_neg h, if_neg (by simp [ferr_zero.2 hb]), if_neg fun k => hn (k r hr)]
theorem chk_ok {b : B} (h : ¬ badSpan b) (hb : ∀ i, i < b.rows.length -> rowErr b.rows i = 0) (hd : ∀ r ∈ b.dels, DelOk r) : chk b = 0 := by
 unfold chk; rw [if_neg h, if_neg (by simp [ferr_zero.2 hb]), if_pos hd]
structure Good (b : B) : Prop where
 span : ¬ badSpan b
 lab : ∀ r ∈ b.rows, Lb.Ok r.lab
 ord : ∀ i (h : i + 1 < b.rows.length), Lb.cmp b.rows[i].lab b.rows[i + 1].lab < 0
 pts : ∀ r ∈ b.rows, PtsOk r
 dels : ∀ r ∈ b.dels, DelOk r
theorem chk_zero {b : B} : chk b = 0 ↔ Good b := by
 constructor
 ·intro h
  have h1 : ¬ badSpan b := fun k => by rw [chk_span k] at h; cases h
  have h2 : ∀ i, i < b.rows.length -> rowErr b.rows i = 0 := by
   by_cases e : ferr (rowErr b.rows) b.rows.length = 0
   ·exact ferr_zero.1 e
   ·unfold chk at h; rw [if_neg h1, if_pos e] at h; exact absurd h e
  refine ⟨h1, fun r hr => ?_, fun i hi => ?_, fun r hr => ?_, fun r hr => ?_⟩
  ·obtain ⟨i, hi, rfl⟩ := List.mem_iff_getElem.1 hr; exact (rowErr_zero hi (h2 i hi)).1
  ·exact (rowErr_zero hi (h2 _ hi)).2.1 i hi rfl (by omega)
  ·obtain ⟨i, hi, rfl⟩ := List.mem_iff_getElem.1 hr; exact (rowErr_zero hi (h2 i hi)).2.2
  ·by_cases e : DelOk r
   ·exact e
   ·rw [chk_del h1 h2 hr e] at h; cases h
 ·intro g
  refine chk_ok g.span (fun i hi => rowErr_ok hi (g.lab _ (List.getElem_mem hi)) (fun k h e h2 => ?_) (g.pts _ (List.getElem_mem hi))) g.dels
  subst e
  exact g.ord k h
def txtL (l : List UInt8) : List UInt8 := numL l.length ++ l
def bts (l : List UInt8) : ByteArray := ⟨l.toArray⟩
theorem bts_list (l : List UInt8) : (bts l).data.toList = l := by simp [bts]
theorem bts_size (l : List UInt8) : (bts l).size = l.length := by rw [<- Frm.size_list, bts_list]
theorem bts_inj {a b : List UInt8} (h : bts a = bts b) : a = b := by rw [<- bts_list a, h, bts_list]
theorem num_inj {a b : Nat} {r s : List UInt8} (ha : a < 18446744073709551616) (hb : b < 18446744073709551616) (h : numL a ++ r = numL b ++ s) : a = b /\ r = s := by
 have h1 := Rc.num_enc a ha r
 rw [h, Rc.num_enc b hb s] at h1
 simp only [Except.ok.injEq, Prod.mk.injEq] at h1
 exact ⟨h1.1.symm, h1.2.symm⟩
theorem txt_inj {a b r s : List UInt8} (ha : a.length < 18446744073709551616) (hb : b.length < 18446744073709551616) (h : txtL a ++ r = txtL b ++ s) : a = b /\ r = s := by
 unfold txtL at h
 rw [List.append_assoc, List.append_assoc] at h
 obtain ⟨e, h2⟩ := num_inj ha hb h
 exact List.append_inj h2 e
def headL (b : B) : List UInt8 := numL b.first.toNat ++ (numL b.til.toNat ++ (numL b.rows.length ++ numL b.dels.length))
def parts (l : List Pt) : List (List Pt) := (List.range (Ck.nparts l)).map (Ck.part l)
def partL (l : List Pt) : List UInt8 := txtL (Ck.code l)
def rowL (r : Row) : List UInt8 := txtL (Lb.encB r.lab) ++ (numL (zig r.last) ++ (parts r.pts).flatMap partL)
abbrev Fr := Nat × ByteArray
def rowF (r : Row) : Fr := (3, bts (rowL r))
def delF (r : Rc.R) : Fr := (4, bts (Rc.encB r))
def headF (b : B) : Fr := (2, bts (headL b))
def frs (b : B) : List Fr := headF b :: (b.rows.map rowF ++ b.dels.map delF)
def endF (s : List UInt8) : Fr := (5, Frm.sumB (Crc.more 0 s))
def allF (b : B) : List Fr := frs b ++ [endF (Frm.allA (frs b))]
def code (b : B) : List UInt8 := Frm.allA (allF b)
def Long (b : B) : Prop := ∃ r ∈ b.rows, 65536 < (rowL r).length
open Classical in
noncomputable def enc (b : B) : List UInt8 × Nat := if chk b ≠ 0 then ([], chk b) else if Long b then ([], 8) else (code b, 0)
theorem enc_chk {b : B} (h : chk b ≠ 0) : enc b = ([], chk b) := if_pos h
theorem enc_long {b : B} (h : chk b = 0) (hl : Long b) : enc b = ([], 8) := by unfold enc; rw [if_neg (by simp [h]), if_pos hl]
theorem enc_ok {b : B} (h : chk b = 0) (hl : ¬ Long b) : enc b = (code b, 0) := by unfold enc; rw [if_neg (by simp [h]), if_neg hl]
theorem enc_is {b : B} {s : List UInt8} (h : enc b = (s, 0)) : Good b /\ ¬ Long b /\ code b = s := by
 by_cases h1 : chk b = 0
 ·by_cases h2 : Long b
  ·rw [enc_long h1 h2] at h; simp at h
  ·rw [enc_ok h1 h2] at h; simp only [Prod.mk.injEq, and_true] at h; exact ⟨chk_zero.1 h1, h2, h⟩
 ·rw [enc_chk h1] at h; simp only [Prod.mk.injEq] at h; exact absurd h.2 h1
theorem parts_to (l : List Pt) : ∀ j, ((List.range j).map (Ck.part l)).flatten = l.take (64 * j)
 | 0 => by simp
 | j + 1 => by rw [List.range_succ, List.map_append, List.flatten_append, parts_to l j, <- Ck.parts_join]; simp
theorem parts_flat (l : List Pt) : (parts l).flatten = l := by unfold parts; rw [parts_to, Ck.parts_all]
theorem mem_parts {l : List Pt} {p : List Pt} (h : p ∈ parts l) : ∃ i, i < Ck.nparts l /\ p = Ck.part l i := by
 unfold parts at h
 obtain ⟨i, hi, rfl⟩ := List.mem_map.1 h
 exact ⟨i, List.mem_range.1 hi, rfl⟩
structure PartOk (p : List Pt) : Prop where
 one : 1 <= p.length
 few : p.length <= 64
 rise : Ck.Rises p p.length
 inn : ∀ q ∈ p, Ck.PtIn q
theorem PartOk.enc {p : List Pt} (h : PartOk p) : Ck.enc p = (Ck.code p, 0) := Ck.enc_ok h.one h.few h.rise
theorem parts_ok {l : List Pt} (hr : Ck.Rises l l.length) (hi : ∀ q ∈ l, Ck.PtIn q) : ∀ p ∈ parts l, PartOk p := fun p hp => by
 obtain ⟨i, hi2, rfl⟩ := mem_parts hp
 exact ⟨(Ck.part_len hi2).1, (Ck.part_len hi2).2, Ck.part_rises hr i, Ck.part_in hi i⟩
theorem parts_inj : ∀ {a b : List (List Pt)}, (∀ p ∈ a, PartOk p) -> (∀ p ∈ b, PartOk p) -> a.flatMap partL = b.flatMap partL -> a = b
 | [], [], _, _, _ => rfl
 | [], q :: b, _, hb, h => by
  have := congrArg List.length h
  simp [partL, txtL, numL_length] at this
  omega
 | p :: a, [], _, _, h => by
  have := congrArg List.length h
  simp [partL, txtL, numL_length] at this
 | p :: a, q :: b, ha, hb, h => by
  have hp := ha p (by simp)
  have hq := hb q (by simp)
  have s1 := Ck.code_size hp.few
  have s2 := Ck.code_size hq.few
  rw [List.flatMap_cons, List.flatMap_cons] at h
  obtain ⟨e1, e2⟩ := txt_inj (by omega) (by omega) h
  have k1 := hp.enc
  rw [e1] at k1
  rw [Ck.enc_inj hp.inn hq.inn k1 hq.enc, parts_inj (fun u hu => ha u (by simp [hu])) (fun u hu => hb u (by simp [hu])) e2]
structure InRow (r : Row) : Prop where
 last : -9223372036854775808 <= r.last /\ r.last <= 9223372036854775807
 pts : ∀ q ∈ r.pts, Ck.PtIn q
structure InR (b : B) : Prop where
 rows : ∀ r ∈ b.rows, InRow r
 dels : ∀ r ∈ b.dels, Rc.Rng r
 few : b.rows.length < 18446744073709551616
 few2 : b.dels.length < 18446744073709551616
theorem row_inj {r q : Row} (h1 : Lb.Ok r.lab) (h2 : Lb.Ok q.lab) (p1 : PtsOk r) (p2 : PtsOk q) (i1 : InRow r) (i2 : InRow q) (h : rowL r = rowL q) : r = q := by
 have s1 := Rc.encL_len h1
 have s2 := Rc.encL_len h2
 unfold rowL at h
 obtain ⟨e1, h⟩ := txt_inj (by omega) (by omega) h
 obtain ⟨e2, h⟩ := num_inj (zig_lt _ i1.last.1 i1.last.2) (zig_lt _ i2.last.1 i2.last.2) h
 have k1 := Lb.dec_enc h1 []
 have k2 := Lb.dec_enc h2 []
 rw [List.append_nil] at k1 k2
 rw [e1, k2] at k1
 simp only [ne_eq, not_true_eq_false, if_false, Prod.mk.injEq, and_true] at k1
 have e3 : r.last = q.last := by rw [<- unz_zig r.last, e2, unz_zig]
 have e4 := parts_inj (parts_ok p1.rise i1.pts) (parts_ok p2.rise i2.pts) h
 have e5 : r.pts = q.pts := by rw [<- parts_flat r.pts, e4, parts_flat]
 obtain ⟨a, b, c⟩ := r
 obtain ⟨a', b', c'⟩ := q
 simp only at k1 e3 e5
 rw [k1, e3, e5]
theorem headL_len (b : B) : (headL b).length <= 36 := by
 have h1 := nd_le b.first.toNat
 have h2 := nd_le b.til.toNat
 have h3 := nd_le b.rows.length
 have h4 := nd_le b.dels.length
 simp only [headL, List.length_append, numL_length]; omega
theorem frs_ok {b : B} (hd : ∀ r ∈ b.dels, DelOk r) (hl : ¬ Long b) : Frm.okF (frs b) := fun p hp => by
 rcases List.mem_cons.1 hp with rfl | hp
 ·have := headL_len b
  exact ⟨show 1 <= 2 by decide, show 2 <= 255 by decide, by show (bts (headL b)).size <= _; rw [bts_size]; omega⟩
 ·rcases List.mem_append.1 hp with hp | hp
  ·obtain ⟨r, hr, rfl⟩ := List.mem_map.1 hp
   refine ⟨show 1 <= 3 by decide, show 3 <= 255 by decide, ?_⟩
   show (bts (rowL r)).size <= _
   rw [bts_size]
   by_cases c : (rowL r).length <= 65536
   ·exact c
   ·exact absurd ⟨r, hr, by omega⟩ hl
  ·obtain ⟨r, hr, rfl⟩ := List.mem_map.1 hp
   refine ⟨show 1 <= 4 by decide, show 4 <= 255 by decide, ?_⟩
   show (bts (Rc.encB r)).size <= _
   rw [bts_size]
   have := Rc.encB_len (hd r hr).2
   omega
theorem end_ok (s : List UInt8) : 1 <= (endF s).1 /\ (endF s).1 <= 255 /\ (endF s).2.size <= 65536 := ⟨show 1 <= 5 by decide, show 5 <= 255 by decide, by rw [endF, Frm.sumB_size]; decide⟩
theorem allF_ok {b : B} (hd : ∀ r ∈ b.dels, DelOk r) (hl : ¬ Long b) : Frm.okF (allF b) := fun p hp => by
 rcases List.mem_append.1 hp with hp | hp
 ·exact frs_ok hd hl p hp
 ·rw [List.mem_singleton.1 hp]; exact end_ok _
theorem all_front : ∀ {l m : List Fr} {t : List UInt8}, Frm.okF l -> Frm.okF m -> Frm.allA l = Frm.allA m ++ t -> ∃ k, l = m ++ k /\ Frm.allA k = t
 | l, [], t, _, _, h => ⟨l, rfl, by simpa [Frm.allA] using h⟩
 | [], q :: m, t, _, hm, h => by
  have := congrArg List.length h
  have hz := Frm.putA_size q.1 q.2
  simp only [Frm.allA, List.length_nil, List.length_append, Frm.size_list] at this
  omega
 | p :: l, q :: m, t, hl, hm, h => by
  obtain ⟨a1, a2, a3⟩ := hl p (by simp)
  obtain ⟨b1, b2, b3⟩ := hm q (by simp)
  have e : Frm.putA p.1 p.2 ++ bts (Frm.allA l) = Frm.putA q.1 q.2 ++ bts (Frm.allA m ++ t) := by
   apply Frm.bytes_ext
   rw [ByteArray.data_append, Array.toList_append, bts_list, ByteArray.data_append, Array.toList_append, bts_list]
   simp only [Frm.allA] at h
   rw [h, List.append_assoc]
  have g := Frm.got_put p.1 p.2 (bts (Frm.allA l)) a1 a2 a3
  rw [e, Frm.got_put q.1 q.2 _ b1 b2 b3] at g
  simp only [Frm.Got.mk.injEq, and_true] at g
  have e2 : p = q := Prod.ext g.1.symm g.2.1.symm
  subst e2
  simp only [Frm.allA, List.append_assoc, List.append_cancel_left_eq] at h
  obtain ⟨k, rfl, hk⟩ := all_front (fun u hu => hl u (by simp [hu])) (fun u hu => hm u (by simp [hu])) h
  exact ⟨k, rfl, hk⟩
theorem allF_len (b : B) : (allF b).length = b.rows.length + b.dels.length + 2 := by simp [allF, frs]; omega
theorem head_inj {b c : B} (hb : ¬ badSpan b) (hc : ¬ badSpan c) (ib : InR b) (ic : InR c) (h : headF b = headF c) : b.first = c.first /\ b.til = c.til /\ b.rows.length = c.rows.length /\ b.dels.length = c.dels.length := by
 have h1 : headL b = headL c := bts_inj (congrArg Prod.snd h)
 unfold badSpan at hb hc
 unfold headL at h1
 obtain ⟨e1, h1⟩ := num_inj (by omega) (by omega) h1
 obtain ⟨e2, h1⟩ := num_inj (by omega) (by omega) h1
 obtain ⟨e3, h1⟩ := num_inj ib.few ic.few h1
 have e4 := numL_inj _ _ ib.few2 ic.few2 h1
 exact ⟨by omega, by omega, e3, e4⟩
theorem map_inj {α β : Type} {f : α -> β} : ∀ {a b : List α}, (∀ x ∈ a, ∀ y ∈ b, f x = f y -> x = y) -> a.map f = b.map f -> a = b
 | [], [], _, _ => rfl
 | [], _ :: _, _, h => by simp at h
 | _ :: _, [], _, h => by simp at h
 | x :: a, y :: b, hf, h => by
  simp only [List.map_cons, List.cons.injEq] at h
  rw [hf x (by simp) y (by simp) h.1, map_inj (fun u hu v hv => hf u (by simp [hu]) v (by simp [hv])) h.2]
theorem code_inj {b c : B} (hb : Good b) (hc : Good c) (ib : InR b) (ic : InR c) (lb : ¬ Long b) (lc : ¬ Long c) (h : code b = code c) : b = c := by
 obtain ⟨k, e, hk⟩ := all_front (t := []) (allF_ok hb.dels lb) (allF_ok hc.dels lc) (by rw [List.append_nil]; exact h)
 have hk0 : k = [] := by
  cases k with
  | nil => rfl
  | cons p k =>
   have := congrArg List.length hk
   have hz := Frm.putA_size p.1 p.2
   simp only [Frm.allA, List.length_nil, List.length_append, Frm.size_list] at this
   omega
 subst hk0
 rw [List.append_nil] at e
 unfold allF at e
 have e1 := (List.append_inj' e rfl).1
 unfold frs at e1
 simp only [List.cons.injEq] at e1
 obtain ⟨e2, e3⟩ := e1
 obtain ⟨f1, f2, f3, f4⟩ := head_inj hb.span hc.span ib ic e2
 obtain ⟨g1, g2⟩ := List.append_inj e3 (by simp [f3])
 have r1 : b.rows = c.rows := map_inj (fun x hx y hy h => row_inj (hb.lab x hx) (hc.lab y hy) (hb.pts x hx) (hc.pts y hy) (ib.rows x hx) (ic.rows y hy) (bts_inj (congrArg Prod.snd h))) g1
 have r2 : b.dels = c.dels := map_inj (fun x hx y hy h => by
  have h1 : Rc.encB x = Rc.encB y := bts_inj (congrArg Prod.snd h)
  have k1 := Rc.dec_enc (hb.dels x hx).2 (ib.dels x hx)
  rw [h1, Rc.dec_enc (hc.dels y hy).2 (ic.dels y hy)] at k1
  simp only [Prod.mk.injEq, and_true] at k1
  exact k1.symm) g2
 obtain ⟨a1, a2, a3, a4⟩ := b
 obtain ⟨b1, b2, b3, b4⟩ := c
 simp only at f1 f2 r1 r2
 rw [f1, f2, r1, r2]
def Not (s : List UInt8) : Prop := ∀ b, InR b -> enc b ≠ (s, 0)
def Dec (s : List UInt8) (b : B) (e : Nat) : Prop := (e = 0 /\ enc b = (s, 0) /\ InR b) \/ (e = 3 /\ b = zero /\ Not s)
theorem enc_inj {b c : B} {s : List UInt8} (ib : InR b) (ic : InR c) (h1 : enc b = (s, 0)) (h2 : enc c = (s, 0)) : b = c := by
 obtain ⟨g1, l1, rfl⟩ := enc_is h1
 obtain ⟨g2, l2, e⟩ := enc_is h2
 exact code_inj g1 g2 ib ic l1 l2 e.symm
theorem Dec.one {s : List UInt8} {b c : B} {e f : Nat} (h1 : Dec s b e) (h2 : Dec s c f) : e = f /\ b = c := by
 rcases h1 with ⟨rfl, h1, i1⟩ | ⟨rfl, rfl, n1⟩ <;> rcases h2 with ⟨rfl, h2, i2⟩ | ⟨rfl, rfl, n2⟩
 ·exact ⟨rfl, enc_inj i1 i2 h1 h2⟩
 ·exact absurd h1 (n2 b i1)
 ·exact absurd h2 (n1 c i2)
 ·exact ⟨rfl, rfl⟩
theorem code_cut (b : B) : code b = Frm.allA (frs b) ++ Frm.allA [endF (Frm.allA (frs b))] := by unfold code allF; rw [Frm.allA_append]
end Bk
end
end Go.Proofs.YtgmnhodajngchaaGreatDoor
