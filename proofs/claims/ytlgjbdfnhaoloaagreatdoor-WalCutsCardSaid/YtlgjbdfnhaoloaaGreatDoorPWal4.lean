/- Parts, put together: WalHold, WalHold2, WalHold3. -/
import Derived.Test.YtlgjbdfnhaoloaaGreatDoorPWal1
import Derived.Test.YtlgjbdfnhaoloaaGreatDoorPDisk3

/- The log (layer 5), plainly: segments with their records as files on a disk: the good part of a file that is cut, which segments belong, what is read. -/
section
set_option linter.unusedSimpArgs false
set_option linter.unusedVariables false
namespace Go.Proofs.YtlgjbdfnhaoloaaGreatDoor
namespace Wal
open Dig Frm Dsk

/-! ### frames of records -/
def fr (r : ByteArray) : Str := (putA 1 r).data.toList
def lenF (r : ByteArray) : Nat := (putA 1 r).size
def frs : List ByteArray → Str
  | [] => []
  | r :: t => fr r ++ frs t
theorem fr_len (r : ByteArray) : (fr r).length = lenF r := by unfold fr lenF; simp
theorem lenF_pos (r : ByteArray) : 6 ≤ lenF r := by unfold lenF; rw [putA_size]; omega
theorem frs_append (a b : List ByteArray) : frs (a ++ b) = frs a ++ frs b := by
  induction a with
  | nil => rfl
  | cons r t ih => simp [frs, ih]
theorem frs_len (l : List ByteArray) : (frs l).length = (l.map lenF).sum := by
  induction l with
  | nil => rfl
  | cons r t ih => simp [frs, ih, fr_len]
theorem take_sum (l : List ByteArray) (k : Nat) : ((l.map lenF).take k).sum = (frs (l.take k)).length := by rw [frs_len, List.map_take]

/-- How many whole frames so many bytes hold. -/
def whole : List ByteArray → Nat → Nat
  | [], _ => 0
  | r :: t, m => if lenF r ≤ m then 1 + whole t (m - lenF r) else 0
theorem whole_le : ∀ (l : List ByteArray) (m : Nat), whole l m ≤ l.length
  | [], _ => Nat.le_refl _
  | r :: t, m => by
    unfold whole
    split
    · have := whole_le t (m - lenF r); simp only [List.length_cons]; omega
    · omega
theorem whole_ge : ∀ (l : List ByteArray) (m k : Nat), k ≤ l.length → (frs (l.take k)).length ≤ m → k ≤ whole l m
  | [], _, k, h, _ => by simpa [whole] using h
  | r :: t, m, 0, _, _ => Nat.zero_le _
  | r :: t, m, k + 1, h, hm => by
    simp only [List.take_succ_cons, frs, List.length_append, fr_len] at hm
    unfold whole
    rw [if_pos (by omega)]
    have := whole_ge t (m - lenF r) k (by simpa using h) (by omega)
    omega
theorem whole_all (l : List ByteArray) : whole l (frs l).length = l.length := by
  have h1 := whole_le l (frs l).length
  have h2 := whole_ge l (frs l).length l.length (Nat.le_refl _) (by rw [List.take_length]; exact Nat.le_refl _)
  omega
theorem whole_rest : ∀ (l : List ByteArray) (m : Nat), ∃ rest, (frs l).take m = frs (l.take (whole l m)) ++ rest
  | [], m => ⟨[], by simp [frs, whole]⟩
  | r :: t, m => by
    unfold whole
    split
    · rename_i h
      obtain ⟨rest, hr⟩ := whole_rest t (m - lenF r)
      refine ⟨rest, ?_⟩
      rw [Nat.add_comm 1, List.take_succ_cons]
      simp only [frs]
      rw [List.take_append, List.take_of_length_le (by rw [fr_len]; omega), fr_len, hr, List.append_assoc]
    · exact ⟨_, by simp [frs]; rfl⟩

theorem bytes_of (s : Str) : (⟨s.toArray⟩ : ByteArray).data.toList = s := by simp
theorem bytes_sz (s : Str) : (⟨s.toArray⟩ : ByteArray).size = s.length := by simp [ByteArray.size]
theorem put1 (r : ByteArray) (h : r.size ≤ 65536) : putS 1 r = putA 1 r ∧ putE 1 r = 0 := by
  constructor
  · unfold putS; rw [if_neg (by omega), if_neg (by omega)]; rfl
  · unfold putE; rw [if_neg (by omega), if_neg (by omega)]

/-- What is got at a place ahead of which so many bytes stand. -/
theorem got_at (b : ByteArray) (m : Nat) (r : ByteArray) (t : Str) (hr : r.size ≤ 65536) (h : b.data.toList.drop m = fr r ++ t) : gotF (b.extract m b.size) = ⟨1, r, lenF r, 0⟩ := by
  have e : b.extract m b.size = putA 1 r ++ ⟨t.toArray⟩ := by
    apply bytes_ext
    rw [Frm.extract_list, List.take_of_length_le (by rw [size_list]; exact Nat.le_refl _), h, ByteArray.data_append, Array.toList_append]
    simp [fr]
  rw [e]
  exact got_put 1 r _ (by omega) (by omega) hr
theorem got_cut_at (b : ByteArray) (m : Nat) (r : ByteArray) (n : Nat) (hr : r.size ≤ 65536) (hn : n < lenF r) (h : b.data.toList.drop m = (fr r).take n) : (gotF (b.extract m b.size)).err ≠ 0 := by
  have e : b.extract m b.size = (putA 1 r).extract 0 n := by
    apply bytes_ext
    rw [Frm.extract_list, List.take_of_length_le (by rw [size_list]; exact Nat.le_refl _), h, Frm.extract_list, List.drop_zero]
    rfl
  rw [e, got_cutoff 1 r (by omega) (by omega) hr n hn]
  decide

theorem goodF_cut (b : ByteArray) : ∀ (l : List ByteArray) (m f k : Nat), (∀ r ∈ l, r.size ≤ 65536) → b.data.toList.drop k = (frs l).take m → (b.data.toList.drop k).length < f → goodF f b k = (l.take (whole l m)).map lenF
  | l, m, 0, k, _, _, hf => by omega
  | [], m, f + 1, k, _, hd, hf => by
    unfold goodF whole
    have e : b.extract k b.size = ⟨#[]⟩ := by
      apply bytes_ext
      rw [Frm.extract_list, List.take_of_length_le (by rw [size_list]; exact Nat.le_refl _), hd]
      simp [frs]
    rw [e]
    have : (gotF (⟨#[]⟩ : ByteArray)).err = 1 := rfl
    rw [if_neg (by omega)]
    rfl
  | r :: t, m, f + 1, k, hl, hd, hf => by
    have hr := hl r (by simp)
    unfold goodF whole
    by_cases hm : lenF r ≤ m
    · have hd' : b.data.toList.drop k = fr r ++ (frs t).take (m - lenF r) := by
        rw [hd]
        simp only [frs]
        rw [List.take_append, List.take_of_length_le (by rw [fr_len]; omega), fr_len]
      rw [got_at b k r _ hr hd', if_pos hm]
      rw [if_pos ⟨rfl, rfl⟩, Nat.add_comm 1, List.take_succ_cons, List.map_cons]
      have hd2 : b.data.toList.drop (k + lenF r) = (frs t).take (m - lenF r) := by
        rw [← List.drop_drop, hd', List.drop_append_of_le_length (by rw [fr_len]; exact Nat.le_refl _), List.drop_of_length_le (by rw [fr_len]; exact Nat.le_refl _), List.nil_append]
      have hp := lenF_pos r
      have hlen := congrArg List.length hd'
      rw [List.length_append, fr_len] at hlen
      rw [goodF_cut b t (m - lenF r) f (k + lenF r) (fun x hx => hl x (by simp [hx])) hd2 (by rw [← List.drop_drop, List.length_drop]; omega)]
    · have hd' : b.data.toList.drop k = (fr r).take m := by
        rw [hd]
        simp only [frs]
        rw [List.take_append_of_le_length (by rw [fr_len]; omega)]
      have := got_cut_at b k r m hr (by omega) hd'
      rw [if_neg (fun h => this h.1), if_neg hm]
      rfl
theorem good_cut (b : ByteArray) (l : List ByteArray) (m : Nat) (hl : ∀ r ∈ l, r.size ≤ 65536) (h : b.data.toList = (frs l).take m) : good b = (l.take (whole l m)).map lenF := by
  unfold good
  exact goodF_cut b l m _ 0 hl (by rw [List.drop_zero, h]) (by rw [List.drop_zero, size_list]; omega)

/-! ### segments -/
structure Sg where
  first : Nat
  recs : List ByteArray
  file : Nat
  sure : Nat
  marked : Bool
def Sg.seg (x : Sg) : Seg := ⟨x.first, x.recs.map lenF, x.marked⟩
def Sg.nm (x : Sg) : Str × Nat := (nameL x.first, x.file)
theorem seg_name (x : Sg) : x.seg.name = nameL x.first := rfl
theorem seg_first (x : Sg) : x.seg.first = x.first := rfl
theorem seg_last (x : Sg) : x.seg.last = x.first + x.recs.length - 1 := by unfold Seg.last Sg.seg; simp

/-- Each begins where the one ahead of it ends, and has records. -/
def Chain : Nat → List Sg → Prop
  | _, [] => True
  | f, x :: r => x.first = f ∧ x.recs ≠ [] ∧ Chain (f + x.recs.length) r
theorem chain_cons {f : Nat} {x : Sg} {r : List Sg} : Chain f (x :: r) ↔ x.first = f ∧ x.recs ≠ [] ∧ Chain (f + x.recs.length) r := Iff.rfl
def recsOf (X : List Sg) : List ByteArray := X.flatMap Sg.recs
theorem recsOf_nil : recsOf [] = [] := rfl
theorem recsOf_cons (x : Sg) (r : List Sg) : recsOf (x :: r) = x.recs ++ recsOf r := rfl
theorem recsOf_append (a b : List Sg) : recsOf (a ++ b) = recsOf a ++ recsOf b := by unfold recsOf; simp
theorem chain_append : ∀ {a b : List Sg} {f : Nat}, Chain f (a ++ b) ↔ Chain f a ∧ Chain (f + (recsOf a).length) b
  | [], b, f => by simp [Chain, recsOf]
  | x :: a, b, f => by
    rw [List.cons_append, chain_cons, chain_cons, chain_append (a := a), recsOf_cons, List.length_append]
    constructor
    · rintro ⟨h1, h2, h3, h4⟩; exact ⟨⟨h1, h2, h3⟩, by rw [← Nat.add_assoc]; exact h4⟩
    · rintro ⟨⟨h1, h2, h3⟩, h4⟩; exact ⟨h1, h2, h3, by rw [Nat.add_assoc]; exact h4⟩
theorem chain_ge : ∀ {X : List Sg} {f : Nat}, Chain f X → ∀ x ∈ X, f ≤ x.first ∧ x.first < f + (recsOf X).length
  | [], _, _, x, hx => by cases hx
  | y :: r, f, h, x, hx => by
    obtain ⟨h1, h2, h3⟩ := h
    have hp : 0 < y.recs.length := List.length_pos_iff.2 h2
    rw [recsOf_cons, List.length_append]
    rcases List.mem_cons.1 hx with rfl | hx
    · omega
    · have := chain_ge h3 x hx; omega
theorem chain_rise : ∀ {X : List Sg} {f : Nat}, Chain f X → X.Pairwise fun a b => a.first < b.first
  | [], _, _ => List.Pairwise.nil
  | y :: r, f, h => by
    obtain ⟨h1, h2, h3⟩ := h
    have hp : 0 < y.recs.length := List.length_pos_iff.2 h2
    refine List.Pairwise.cons (fun x hx => ?_) (chain_rise h3)
    have := chain_ge h3 x hx; omega
theorem chain_take {X : List Sg} {f : Nat} (h : Chain f X) (k : Nat) : Chain f (X.take k) := by
  rw [← List.take_append_drop k X, chain_append] at h; exact h.1
/-- Names rise as the numbers do. -/
theorem rising_of {X : List Sg} (h : X.Pairwise fun a b => a.first < b.first) (ht : ∀ x ∈ X, x.first ≤ 99999999) : Rising (X.map Sg.nm) := by
  unfold Rising
  rw [List.pairwise_map]
  refine h.imp_of_mem ?_
  intro a b ha hb hab
  exact name_before (ht b hb) hab
theorem look_seg {X : List Sg} (h : X.Pairwise fun a b => a.first < b.first) (ht : ∀ x ∈ X, x.first ≤ 99999999) {x : Sg} (hx : x ∈ X) : lookN (X.map Sg.nm) (nameL x.first) = some x.file :=
  look_of_mem (rising_of h ht) (List.mem_map.2 ⟨x, hx, rfl⟩)
theorem look_not {X : List Sg} (ht : ∀ x ∈ X, x.first ≤ 99999999) {n : Nat} (hn : n ≤ 99999999) (hne : ∀ x ∈ X, x.first ≠ n) : lookN (X.map Sg.nm) (nameL n) = none := by
  refine look_none_of fun p hp => ?_
  obtain ⟨x, hx, rfl⟩ := List.mem_map.1 hp
  exact fun e => hne x hx (name_inj (ht x hx) hn e)

/-- A name behind all others is put at the end. -/
theorem ins_end (p : Str × Nat) : ∀ (N : Nms), (∀ q ∈ N, bytesBefore q.1 p.1 = true) → insN p N = N ++ [p]
  | [], _ => rfl
  | q :: r, h => by
    have h1 := h q (by simp)
    have h2 : bytesBefore p.1 q.1 = false := by
      cases e : bytesBefore p.1 q.1 with
      | false => rfl
      | true => exact absurd (WideShapes.bytes_trans _ _ _ h1 e) (by rw [WideAt.bytes_irrefl]; simp)
    unfold insN
    rw [if_neg (by simp [h2]), ins_end p r fun q hq => h q (by simp [hq])]
    rfl
theorem put_end {X : List Sg} {n : Nat} (hn : n ≤ 99999999) (ht : ∀ x ∈ X, x.first < n) (i : Nat) : putN (X.map Sg.nm) (nameL n) i = X.map Sg.nm ++ [(nameL n, i)] := by
  unfold putN
  rw [del_none (look_not (fun x hx => by have := ht x hx; omega) hn fun x hx => by have := ht x hx; omega)]
  refine ins_end _ _ fun q hq => ?_
  obtain ⟨x, hx, rfl⟩ := List.mem_map.1 hq
  exact name_before hn (ht x hx)
def Sg.put (x : Sg) : Chg := .put (nameL x.first) x.file
theorem puts_fold : ∀ (Y X : List Sg), (X ++ Y).Pairwise (fun a b => a.first < b.first) → (∀ x ∈ X ++ Y, x.first ≤ 99999999) → (Y.map Sg.put).foldl appC (X.map Sg.nm) = (X ++ Y).map Sg.nm
  | [], X, _, _ => by simp
  | y :: r, X, h, ht => by
    rw [List.map_cons, List.foldl_cons]
    have e : appC (X.map Sg.nm) y.put = (X ++ [y]).map Sg.nm := by
      show putN _ _ _ = _
      rw [put_end (ht y (by simp)) (fun x hx => by rw [List.pairwise_append] at h; exact h.2.2 x hx y (by simp))]
      simp [Sg.nm]
    rw [e, puts_fold r (X ++ [y]) (by simpa using h) (by simpa using ht)]
    simp

/-! ### what is read -/
/-- The files begin with the segments' frames. -/
def Reads (st : St) (X : List Sg) : Prop := ∀ x ∈ X, readE st (nameL x.first) = 0 ∧ ∃ rest, readA st (nameL x.first) = frs x.recs ++ rest
theorem readFrom_is {st : St} {x : Sg} {j : Nat} {r : ByteArray} (hl : ∀ r ∈ x.recs, r.size ≤ 65536) (h : readE st (nameL x.first) = 0) {rest : Str} (hr : readA st (nameL x.first) = frs x.recs ++ rest) (hj : x.recs[j]? = some r) : readFromL st x.seg (x.first + j) = (r, 0) := by
  have hm : r ∈ x.recs := List.mem_of_getElem? hj
  have hlt : j < x.recs.length := (List.getElem?_eq_some_iff.1 hj).1
  have hsplit : x.recs = x.recs.take j ++ (r :: x.recs.drop (j + 1)) := by
    have e := List.drop_eq_getElem_cons hlt
    have e2 : x.recs[j] = r := by have := List.getElem?_eq_getElem hlt; rw [hj] at this; exact (Option.some.inj this).symm
    rw [← e2, ← e, List.take_append_drop]
  have hb : (fileB st (nameL x.first)).data.toList = frs (x.recs.take j) ++ (fr r ++ (frs (x.recs.drop (j + 1)) ++ rest)) := by
    unfold fileB
    rw [bytes_of, hr]
    conv => lhs; rw [hsplit]
    rw [frs_append]
    simp [frs]
  have hsz : (fileB st (nameL x.first)).size = (frs (x.recs.take j)).length + (lenF r + ((frs (x.recs.drop (j + 1))).length + rest.length)) := by
    rw [← size_list, hb]; simp [fr_len]
  have hg := got_at (fileB st (nameL x.first)) (frs (x.recs.take j)).length r _ (hl r hm) (by rw [hb]; exact List.drop_left)
  have ho : (x.seg.lens.take (x.first + j - x.seg.first)).sum = (frs (x.recs.take j)).length := by
    have : x.first + j - x.seg.first = j := by unfold Sg.seg; simp
    rw [this]; exact take_sum x.recs j
  unfold readFromL
  rw [seg_name, ho, if_neg (by simp [h]), if_neg (by omega), hg, if_neg (by simp)]
theorem read_chain {st : St} : ∀ {X : List Sg} {f : Nat}, Chain f X → (∀ x ∈ X, ∀ r ∈ x.recs, r.size ≤ 65536) → Reads st X → ∀ (j : Nat) (r : ByteArray), (recsOf X)[j]? = some r → readL st ((f + j : Nat) : Int) (X.map Sg.seg) = (r, 0)
  | [], f, _, _, _, j, r, hj => by simp [recsOf] at hj
  | x :: t, f, h, hl, hr, j, r, hj => by
    obtain ⟨h1, h2, h3⟩ := h
    have hp : 0 < x.recs.length := List.length_pos_iff.2 h2
    rw [recsOf_cons] at hj
    rw [List.map_cons]
    unfold readL
    rw [seg_first, seg_last]
    by_cases hlt : j < x.recs.length
    · rw [if_pos ⟨by omega, by omega⟩]
      rw [List.getElem?_append_left hlt] at hj
      obtain ⟨r1, rest, r2⟩ := hr x (by simp)
      rw [Int.toNat_natCast, ← h1]
      exact readFrom_is (hl x (by simp)) r1 r2 hj
    · rw [if_neg (by omega)]
      rw [List.getElem?_append_right (by omega)] at hj
      have := read_chain h3 (fun y hy => hl y (by simp [hy])) (fun y hy => hr y (by simp [hy])) (j - x.recs.length) r hj
      have e : f + x.recs.length + (j - x.recs.length) = f + j := by omega
      rw [e] at this
      exact this
theorem read_none {st : St} : ∀ {X : List Sg} {f : Nat} {n : Int}, Chain f X → (n < (f : Int) ∨ ((f + (recsOf X).length : Nat) : Int) ≤ n) → readL st n (X.map Sg.seg) = (⟨#[]⟩, 12)
  | [], f, n, _, _ => rfl
  | x :: t, f, n, h, hn => by
    obtain ⟨h1, h2, h3⟩ := h
    have hp : 0 < x.recs.length := List.length_pos_iff.2 h2
    rw [recsOf_cons, List.length_append] at hn
    rw [List.map_cons]
    unfold readL
    rw [seg_first, seg_last, if_neg (by omega)]
    exact read_none h3 (by omega)

/-! ### which belong -/
/-- A segment of which so many records are found. -/
def Sg.cutTo (x : Sg) (w : Nat) : Sg := { x with recs := x.recs.take w, marked := false }
def cutsTo (W : Sg → Nat) (Y : List Sg) : List Sg := Y.map fun x => x.cutTo (W x)
theorem belong_chain (W : Sg → Nat) (d : Nat) : ∀ (Y : List Sg) (i c l : Nat), Chain (l + 1) Y → (∀ x ∈ Y, W x ≤ x.recs.length) → (∀ x ∈ Y, x.first ≤ d → min (d + 1 - x.first) x.recs.length ≤ W x) → d ≤ l + (recsOf Y).length → (i = 0 → l = 0) →
    ∃ k, k ≤ Y.length ∧ belongF 0 ((cutsTo W Y).map Sg.seg) i c l = (if k = 0 then c else i + k, l + (recsOf ((cutsTo W Y).take k)).length) ∧ Chain (l + 1) ((cutsTo W Y).take k) ∧
      recsOf ((cutsTo W Y).take k) = (recsOf Y).take (recsOf ((cutsTo W Y).take k)).length ∧ d ≤ l + (recsOf ((cutsTo W Y).take k)).length
  | [], i, c, l, _, _, _, hd, _ => ⟨0, Nat.le_refl _, by simp [cutsTo, belongF, recsOf], trivial, by simp [recsOf, cutsTo], by simpa [recsOf, cutsTo] using hd⟩
  | x :: t, i, c, l, h, hW, hD, hd, hi => by
    obtain ⟨h1, h2, h3⟩ := h
    have hp : 0 < x.recs.length := List.length_pos_iff.2 h2
    have hw := hW x (by simp)
    have hwl : (x.recs.take (W x)).length = W x := by rw [List.length_take]; omega
    have hcons : cutsTo W (x :: t) = x.cutTo (W x) :: cutsTo W t := rfl
    have hlast : (x.cutTo (W x)).seg.last = x.first + W x - 1 := by rw [seg_last]; show x.first + (x.recs.take (W x)).length - 1 = _; rw [hwl]
    by_cases h0 : W x = 0
    · refine ⟨0, Nat.zero_le _, ?_, trivial, by simp [recsOf], ?_⟩
      · rw [hcons, List.map_cons]
        unfold belongF
        rw [if_neg (fun hh => hh.2 (by show (x.recs.take (W x)).map lenF = []; rw [h0]; rfl))]
        simp [recsOf]
      · simp only [List.take_zero, recsOf_nil, List.length_nil, Nat.add_zero]
        rcases Nat.lt_or_ge l d with hlt | hge
        · have := hD x (by simp) (by omega); omega
        · exact hge
    · have hbel : belongF 0 ((cutsTo W (x :: t)).map Sg.seg) i c l = belongF 0 ((cutsTo W t).map Sg.seg) (i + 1) (i + 1) (l + W x) := by
        rw [hcons, List.map_cons]
        conv => lhs; unfold belongF
        have hne : (x.cutTo (W x)).seg.lens ≠ [] := by
          show (x.recs.take (W x)).map lenF ≠ []
          intro e
          have := congrArg List.length e
          rw [List.length_map, hwl] at this
          simp at this
          exact h0 this
        rw [if_pos ⟨.inl (by show x.first = l + 1; exact h1), hne⟩, hlast]
        congr 1
        omega
      by_cases hfull : W x = x.recs.length
      · obtain ⟨k, k1, k2, k3, k4, k5⟩ := belong_chain W d t (i + 1) (i + 1) (l + W x) (by rw [hfull]; rw [show l + x.recs.length + 1 = l + 1 + x.recs.length by omega]; exact h3) (fun y hy => hW y (by simp [hy])) (fun y hy => hD y (by simp [hy]))
          (by rw [recsOf_cons, List.length_append] at hd; omega) (by omega)
        have hrc : recsOf ((cutsTo W (x :: t)).take (k + 1)) = x.recs ++ recsOf ((cutsTo W t).take k) := by
          rw [hcons, List.take_succ_cons, recsOf_cons]
          show x.recs.take (W x) ++ _ = _
          rw [hfull, List.take_length]
        refine ⟨k + 1, by simp; omega, ?_, ?_, ?_, ?_⟩
        · rw [hbel, k2, hrc, List.length_append, if_neg (show ¬ k + 1 = 0 by omega), ← hfull]
          have e1 : (if k = 0 then i + 1 else i + 1 + k) = i + (k + 1) := by split <;> omega
          rw [e1, Nat.add_assoc l]
        · rw [hcons, List.take_succ_cons]
          refine ⟨h1, ?_, ?_⟩
          · show x.recs.take (W x) ≠ []; rw [hfull, List.take_length]; exact h2
          · show Chain (l + 1 + (x.recs.take (W x)).length) _
            rw [hwl, show l + 1 + W x = l + W x + 1 by omega]; exact k3
        · rw [hrc, List.length_append, recsOf_cons, List.take_append, List.take_of_length_le (l := x.recs) (Nat.le_add_right _ _), Nat.add_sub_cancel_left, ← k4]
        · rw [hrc, List.length_append]; omega
      · have hstop : belongF 0 ((cutsTo W t).map Sg.seg) (i + 1) (i + 1) (l + W x) = (i + 1, l + W x) := by
          cases t with
          | nil => rfl
          | cons y r =>
            obtain ⟨g1, g2, g3⟩ := h3
            show belongF 0 ((y.cutTo (W y)).seg :: (cutsTo W r).map Sg.seg) _ _ _ = _
            unfold belongF
            rw [if_neg]
            rintro ⟨hh | hh, _⟩
            · have : y.first = l + W x + 1 := hh
              omega
            · omega
        have hrc : recsOf ((cutsTo W (x :: t)).take 1) = x.recs.take (W x) := by
          rw [hcons, List.take_succ_cons, List.take_zero, recsOf_cons, recsOf_nil, List.append_nil]; rfl
        refine ⟨1, by simp, ?_, ?_, ?_, ?_⟩
        · rw [hbel, hstop, hrc, hwl, if_neg (by omega)]
        · rw [hcons, List.take_succ_cons, List.take_zero]
          refine ⟨h1, ?_, trivial⟩
          show x.recs.take (W x) ≠ []
          intro e; have := congrArg List.length e; rw [hwl] at this; exact h0 this
        · rw [hrc, hwl, recsOf_cons, List.take_append_of_le_length hw]
        · rw [hrc, hwl]
          rcases Nat.lt_or_ge (l + W x) d with hlt | hge
          · have := hD x (by simp) (by omega); omega
          · exact hge
end Wal
end Go.Proofs.YtlgjbdfnhaoloaaGreatDoor
end

/- The log (layer 5), plainly: a disk that holds segments: what Append, Sync and Remove do to it. -/
section
set_option linter.unusedSimpArgs false
set_option linter.unusedVariables false
namespace Go.Proofs.YtlgjbdfnhaoloaaGreatDoor
namespace Wal
open Dig Frm Dsk

/-- The disk holds just these segments. -/
structure Hold (st : St) (f : Nat) (X : List Sg) : Prop where
  N : st.N = X.map Sg.nm
  file : ∀ x ∈ X, st.F[x.file]? = some ⟨frs x.recs, x.sure⟩
  fresh : (X.map Sg.file).Nodup
  chain : Chain f X
  pos : 1 ≤ f
  top : f + (recsOf X).length ≤ 100000000
  small : ∀ r ∈ recsOf X, r.size ≤ 1000
  sure : ∀ x ∈ X, x.sure ≤ (frs x.recs).length

theorem mem_recsOf {X : List Sg} {x : Sg} {r : ByteArray} (hx : x ∈ X) (hr : r ∈ x.recs) : r ∈ recsOf X := by unfold recsOf; exact List.mem_flatMap.2 ⟨x, hx, hr⟩
theorem Hold.le {st : St} {f : Nat} {X : List Sg} (h : Hold st f X) : ∀ x ∈ X, x.first ≤ 99999999 := fun x hx => by
  have := chain_ge h.chain x hx; have := h.top; omega
theorem Hold.rise {st : St} {f : Nat} {X : List Sg} (h : Hold st f X) : X.Pairwise fun a b => a.first < b.first := chain_rise h.chain
theorem Hold.look {st : St} {f : Nat} {X : List Sg} (h : Hold st f X) {x : Sg} (hx : x ∈ X) : lookN st.N (nameL x.first) = some x.file := by rw [h.N]; exact look_seg h.rise h.le hx
theorem Hold.none {st : St} {f : Nat} {X : List Sg} (h : Hold st f X) {n : Nat} (hn : n ≤ 99999999) (hne : f + (recsOf X).length ≤ n) : lookN st.N (nameL n) = none := by
  rw [h.N]; exact look_not h.le hn fun x hx => by have := chain_ge h.chain x hx; omega
theorem Hold.small' {st : St} {f : Nat} {X : List Sg} (h : Hold st f X) : ∀ x ∈ X, ∀ r ∈ x.recs, r.size ≤ 65536 := fun x hx r hr => by have := h.small r (mem_recsOf hx hr); omega
theorem Hold.lt {st : St} {f : Nat} {X : List Sg} (h : Hold st f X) : ∀ x ∈ X, x.file < st.F.length := fun x hx => (List.getElem?_eq_some_iff.1 (h.file x hx)).1
theorem Hold.congr {st st' : St} {f : Nat} {X : List Sg} (h : Hold st f X) (hN : st'.N = st.N) (hF : st'.F = st.F) : Hold st' f X := { h with N := hN.trans h.N, file := by rw [hF]; exact h.file }
theorem Hold.wr {st : St} {f : Nat} {X : List Sg} (h : Hold st f X) : Hold (wrS st) f X := h.congr (wrS_N st) (wrS_F st)
theorem Hold.reads {st : St} {f : Nat} {X : List Sg} (h : Hold st f X) (hd : st.dead = false) : Reads st X := fun x hx => by
  constructor
  · unfold readE; rw [if_neg (by simp [hd]), h.look hx]; rfl
  · refine ⟨[], ?_⟩
    unfold readA
    rw [if_neg (by simp [hd]), h.look hx]
    simp only [List.getD_eq_getElem?_getD, h.file x hx, Option.getD_some, List.append_nil]
theorem lenF_le (r : ByteArray) (h : r.size ≤ 1000) : lenF r ≤ 1020 := by
  have := nd_le r.size; unfold lenF; rw [putA_size]; omega
theorem frs_le (l : List ByteArray) (h : ∀ r ∈ l, r.size ≤ 1000) : (frs l).length ≤ 1020 * l.length := by
  induction l with
  | nil => simp [frs]
  | cons r t ih =>
    have h1 := lenF_le r (h r (by simp))
    have h2 := ih fun x hx => h x (by simp [hx])
    simp only [frs, List.length_append, fr_len, List.length_cons]
    omega
theorem frs_recsOf : ∀ X : List Sg, (frs (recsOf X)).length = (X.map fun x => (frs x.recs).length).sum
  | [] => rfl
  | x :: r => by rw [recsOf_cons, frs_append, List.length_append, frs_recsOf r]; rfl
theorem Hold.used {st : St} {f : Nat} {X : List Sg} (h : Hold st f X) : used st = (frs (recsOf X)).length := by
  unfold Dsk.used
  rw [h.N, List.map_map, frs_recsOf]
  congr 1
  apply List.map_congr_left
  intro x hx
  show (st.F.getD x.file default).s.length = _
  rw [List.getD_eq_getElem?_getD, h.file x hx]; rfl
theorem chain_len : ∀ {X : List Sg} {f : Nat}, Chain f X → X.length ≤ (recsOf X).length
  | [], _, _ => Nat.le_refl _
  | x :: r, f, h => by
    have := chain_len h.2.2
    have hp : 0 < x.recs.length := List.length_pos_iff.2 h.2.1
    rw [recsOf_cons, List.length_append, List.length_cons]; omega
/-- There is room for one more. -/
theorem Hold.room {st : St} {f : Nat} {X : List Sg} (h : Hold st f X) (s : ByteArray) (hs : s.size ≤ 1000) (hr : (((frs (recsOf X)).length + lenF s : Nat) : Int) ≤ st.room) (hX : X.length < 64) (k : Str) : full (wrS st) k (fr s) = false := by
  unfold full
  have h1 := h.wr.used
  have h2 := frs_le _ h.small
  have h3 := lenF_le s hs
  have h4 : (wrS st).N.length = X.length := by rw [h.wr.N, List.length_map]
  rw [h1, wrS_room, h4, fr_len]
  have e1 : ¬ (st.room < (((frs (recsOf X)).length + lenF s : Nat) : Int)) := by omega
  have e2 : ¬ X.length = 64 := by omega
  rw [decide_eq_false e1, decide_eq_false e2]
  simp

theorem Hold.fits {st : St} {f : Nat} {X : List Sg} (h : Hold st f X) (s : ByteArray) (hs : s.size ≤ 1000) (hr : ((1020 * ((recsOf X).length + 1) : Nat) : Int) ≤ st.room) : (((frs (recsOf X)).length + lenF s : Nat) : Int) ≤ st.room := by
  have h2 := frs_le _ h.small
  have h3 := lenF_le s hs
  omega

/-! ### one record more -/
theorem Hold.more {st : St} {f : Nat} {X : List Sg} {x : Sg} (h : Hold st f (X ++ [x])) (s : ByteArray) (hs : s.size ≤ 1000) (ht : f + (recsOf (X ++ [x])).length ≤ 99999999) : Hold (addF st (nameL x.first) (fr s)) f (X ++ [{ x with recs := x.recs ++ [s], marked := true }]) := by
  have hx : x ∈ X ++ [x] := by simp
  have hl := h.look hx
  have he : addF st (nameL x.first) (fr s) = { st with F := st.F.modify x.file fun g => { g with s := g.s ++ fr s } } := by unfold addF; rw [hl]
  have hrc : recsOf (X ++ [{ x with recs := x.recs ++ [s], marked := true }]) = recsOf (X ++ [x]) ++ [s] := by rw [recsOf_append, recsOf_append, recsOf_cons, recsOf_cons, recsOf_nil]; simp
  have hfr := h.fresh
  rw [List.map_append, List.map_singleton, List.nodup_append] at hfr
  rw [he]
  refine ⟨?_, ?_, ?_, ?_, h.pos, ?_, ?_, ?_⟩
  · show st.N = _; rw [h.N]; simp [Sg.nm]
  · intro y hy
    show (st.F.modify x.file _)[y.file]? = _
    rw [List.getElem?_modify]
    rcases List.mem_append.1 hy with hy | hy
    · have hne : x.file ≠ y.file := fun e => hfr.2.2 y.file (List.mem_map.2 ⟨y, hy, rfl⟩) x.file (by simp) e.symm
      rw [h.file y (by simp [hy])]
      simp [hne]
    · simp at hy; subst hy
      rw [h.file x hx]
      simp [frs_append, frs]
  · rw [List.map_append]; simpa using h.fresh
  · have hc := h.chain
    rw [chain_append] at hc ⊢
    exact ⟨hc.1, hc.2.1, by simp, trivial⟩
  · rw [hrc, List.length_append, List.length_singleton]; omega
  · intro r hr
    rw [hrc] at hr
    rcases List.mem_append.1 hr with hr | hr
    · exact h.small r hr
    · simp at hr; subst hr; exact hs
  · intro y hy
    rcases List.mem_append.1 hy with hy | hy
    · exact h.sure y (by simp [hy])
    · simp at hy; subst hy
      have := h.sure x hx
      show x.sure ≤ (frs (x.recs ++ [s])).length
      rw [frs_append, List.length_append]; omega
theorem Hold.begin {st : St} {f n : Nat} {X : List Sg} (h : Hold st f X) (s : ByteArray) (hs : s.size ≤ 1000) (hn : n = f + (recsOf X).length) (ht : n ≤ 99999999) :
    addF st (nameL n) (fr s) = { st with F := st.F ++ [⟨fr s, 0⟩], N := st.N ++ [(nameL n, st.F.length)], C := st.C ++ [.put (nameL n) st.F.length] } ∧ Hold (addF st (nameL n) (fr s)) f (X ++ [⟨n, [s], st.F.length, 0, true⟩]) := by
  have hl := h.none ht (by omega)
  have hput : putN st.N (nameL n) st.F.length = st.N ++ [(nameL n, st.F.length)] := by
    rw [h.N]
    exact put_end ht (fun x hx => by have := chain_ge h.chain x hx; omega) _
  have he : addF st (nameL n) (fr s) = { st with F := st.F ++ [⟨fr s, 0⟩], N := st.N ++ [(nameL n, st.F.length)], C := st.C ++ [.put (nameL n) st.F.length] } := by unfold addF; rw [hl]; simp only; rw [hput]
  have hrc : recsOf (X ++ [⟨n, [s], st.F.length, 0, true⟩]) = recsOf X ++ [s] := by rw [recsOf_append, recsOf_cons, recsOf_nil]; simp
  refine ⟨he, ?_⟩
  rw [he]
  refine ⟨?_, ?_, ?_, ?_, h.pos, ?_, ?_, ?_⟩
  · show st.N ++ _ = _; rw [h.N]; simp [Sg.nm]
  · intro y hy
    show (st.F ++ [_])[y.file]? = _
    rcases List.mem_append.1 hy with hy | hy
    · rw [List.getElem?_append_left (h.lt y hy), h.file y hy]
    · simp at hy; subst hy
      simp [frs]
  · rw [List.map_append, List.map_singleton, List.nodup_append]
    refine ⟨h.fresh, by simp, fun a ha b hb => ?_⟩
    obtain ⟨y, hy, rfl⟩ := List.mem_map.1 ha
    simp at hb; subst hb
    have := h.lt y hy; omega
  · rw [chain_append]
    exact ⟨h.chain, hn, by simp, trivial⟩
  · rw [hrc, List.length_append, List.length_singleton]; omega
  · intro r hr
    rw [hrc] at hr
    rcases List.mem_append.1 hr with hr | hr
    · exact h.small r hr
    · simp at hr; subst hr; exact hs
  · intro y hy
    rcases List.mem_append.1 hy with hy | hy
    · exact h.sure y hy
    · simp at hy; subst hy; exact Nat.zero_le _

/-! ### a segment is synced -/
inductive GrewS : List Sg → List Sg → Prop
  | nil : GrewS [] []
  | cons {x y : Sg} {a b : List Sg} : y.first = x.first → y.recs = x.recs → y.file = x.file → x.sure ≤ y.sure → (y.marked = false → y.sure = (frs y.recs).length) → GrewS a b → GrewS (x :: a) (y :: b)
theorem GrewS.nm {X Y : List Sg} (h : GrewS X Y) : Y.map Sg.nm = X.map Sg.nm := by
  induction h with
  | nil => rfl
  | cons h1 h2 h3 _ _ _ ih => rw [List.map_cons, List.map_cons, ih]; unfold Sg.nm; rw [h1, h3]
theorem GrewS.put {X Y : List Sg} (h : GrewS X Y) : Y.map Sg.put = X.map Sg.put := by
  induction h with
  | nil => rfl
  | cons h1 h2 h3 _ _ _ ih => rw [List.map_cons, List.map_cons, ih]; unfold Sg.put; rw [h1, h3]
theorem GrewS.file {X Y : List Sg} (h : GrewS X Y) : Y.map Sg.file = X.map Sg.file := by
  induction h with
  | nil => rfl
  | cons h1 h2 h3 _ _ _ ih => rw [List.map_cons, List.map_cons, ih, h3]
theorem GrewS.recs {X Y : List Sg} (h : GrewS X Y) : recsOf Y = recsOf X := by
  induction h with
  | nil => rfl
  | cons h1 h2 h3 _ _ _ ih => rw [recsOf_cons, recsOf_cons, ih, h2]
theorem GrewS.len {X Y : List Sg} (h : GrewS X Y) : Y.length = X.length := by
  induction h with
  | nil => rfl
  | cons h1 h2 h3 _ _ _ ih => rw [List.length_cons, List.length_cons, ih]
theorem GrewS.chain {X Y : List Sg} (h : GrewS X Y) : ∀ {f : Nat}, Chain f X → Chain f Y := by
  induction h with
  | nil => exact fun h => h
  | cons h1 h2 h3 _ _ _ ih => intro f hc; exact ⟨h1.trans hc.1, by rw [h2]; exact hc.2.1, by rw [h2]; exact ih hc.2.2⟩
theorem GrewS.at {X Y : List Sg} (h : GrewS X Y) : ∀ {i : Nat} {y : Sg}, Y[i]? = some y → ∃ x, X[i]? = some x ∧ y.first = x.first ∧ y.recs = x.recs ∧ y.file = x.file ∧ x.sure ≤ y.sure := by
  induction h with
  | nil => intro i y hy; simp at hy
  | cons h1 h2 h3 h4 _ _ ih =>
    intro i z hz
    cases i with
    | zero => simp at hz; subst hz; exact ⟨_, rfl, h1, h2, h3, h4⟩
    | succ i => exact ih (by simpa using hz)
theorem GrewS.refl {X : List Sg} (h : ∀ x ∈ X, x.marked = false → x.sure = (frs x.recs).length) : GrewS X X := by
  induction X with
  | nil => exact .nil
  | cons x r ih => exact .cons rfl rfl rfl (Nat.le_refl _) (h x (by simp)) (ih fun y hy => h y (by simp [hy]))
theorem GrewS.marks {X Y : List Sg} (h : GrewS X Y) : ∀ y ∈ Y, y.marked = false → y.sure = (frs y.recs).length := by
  induction h with
  | nil => intro y hy; cases hy
  | cons h1 h2 h3 h4 h5 _ ih => intro y hy; rcases List.mem_cons.1 hy with rfl | hy; exact h5; exact ih y hy
theorem GrewS.take {X Y : List Sg} (h : GrewS X Y) (p : Nat) : (Y.take p).map Sg.nm = (X.take p).map Sg.nm := by rw [List.map_take, List.map_take, h.nm]
theorem GrewS.drop {X Y : List Sg} (h : GrewS X Y) (p : Nat) : (Y.drop p).map Sg.put = (X.drop p).map Sg.put := by rw [List.map_drop, List.map_drop, h.put]

/-- A disk with power, and no fuse. -/
def Up (st : St) : Prop := st.dead = false ∧ st.left = -1
theorem Up.wrB {st : St} (h : Up st) : wrB st = true := by unfold Dsk.wrB; rw [h.1, h.2]; rfl
theorem Up.wrS {st : St} (h : Up st) : wrS st = st := by unfold Dsk.wrS; rw [h.1, h.2]; rfl

theorem Hold.syncOne {st : St} {f : Nat} {X Y : List Sg} {x : Sg} (h : Hold st f (X ++ x :: Y)) :
    syncF st (nameL x.first) = { st with F := st.F.modify x.file fun g => { g with lasts := g.s.length } } ∧ Hold (syncF st (nameL x.first)) f (X ++ { x with sure := (frs x.recs).length, marked := false } :: Y) := by
  have hx : x ∈ X ++ x :: Y := by simp
  have he : syncF st (nameL x.first) = { st with F := st.F.modify x.file fun g => { g with lasts := g.s.length } } := by unfold syncF; rw [h.look hx]
  have hrc : recsOf (X ++ { x with sure := (frs x.recs).length, marked := false } :: Y) = recsOf (X ++ x :: Y) := by rw [recsOf_append, recsOf_append, recsOf_cons, recsOf_cons]
  have hfr := h.fresh
  rw [List.map_append, List.map_cons, List.nodup_append, List.nodup_cons] at hfr
  refine ⟨he, ?_⟩
  rw [he]
  refine ⟨?_, ?_, ?_, ?_, h.pos, by rw [hrc]; exact h.top, by rw [hrc]; exact h.small, ?_⟩
  · show st.N = _; rw [h.N]; simp [Sg.nm]
  · intro y hy
    show (st.F.modify x.file _)[y.file]? = _
    rw [List.getElem?_modify]
    rcases List.mem_append.1 hy with hy | hy
    · have hne : x.file ≠ y.file := fun e => hfr.2.2 y.file (List.mem_map.2 ⟨y, hy, rfl⟩) x.file (by simp) e.symm
      rw [h.file y (by simp [hy])]; simp [hne]
    · rcases List.mem_cons.1 hy with rfl | hy
      · rw [h.file x hx]; simp
      · have hne : x.file ≠ y.file := fun e => hfr.2.1.1 (List.mem_map.2 ⟨y, hy, e.symm⟩)
        rw [h.file y (by simp [hy])]; simp [hne]
  · simpa using h.fresh
  · have hc := h.chain
    rw [chain_append] at hc ⊢
    exact ⟨hc.1, hc.2⟩
  · intro y hy
    rcases List.mem_append.1 hy with hy | hy
    · exact h.sure y (by simp [hy])
    · rcases List.mem_cons.1 hy with rfl | hy
      · exact Nat.le_refl _
      · exact h.sure y (by simp [hy])

/-- What syncing segments leaves. -/
structure Synced (st : St) (f : Nat) (X1 X2 X2' : List Sg) (t : Tidied) : Prop where
  segs : t.segs = X2'.map Sg.seg
  hold : Hold t.st f (X1 ++ X2')
  L : t.st.L = st.L
  C : t.st.C = st.C
  room : t.st.room = st.room
  grew : GrewS X2 X2'
  ok : t.err = 0 → ∀ x ∈ X2', x.marked = false
  up : Up st → Up t.st ∧ t.err = 0
theorem syncSegs_is : ∀ (X2 X1 : List Sg) (st : St) (f : Nat), Hold st f (X1 ++ X2) → (∀ x ∈ X2, x.marked = false → x.sure = (frs x.recs).length) → ∃ X2', Synced st f X1 X2 X2' (syncSegs (X2.map Sg.seg) st)
  | [], X1, st, f, h, _ => ⟨[], ⟨rfl, h, rfl, rfl, rfl, .nil, fun _ x hx => (by cases hx), fun hu => ⟨hu, rfl⟩⟩⟩
  | x :: r, X1, st, f, h, hm => by
    have hm' : ∀ y ∈ r, y.marked = false → y.sure = (frs y.recs).length := fun y hy => hm y (by simp [hy])
    rw [List.map_cons]
    unfold syncSegs
    rw [seg_name]
    cases hk : x.marked with
    | false =>
      have e : x.seg.marked = false := hk
      rw [if_neg (by simp [e])]
      obtain ⟨X2', k⟩ := syncSegs_is r (X1 ++ [x]) st f (by simpa using h) hm'
      refine ⟨x :: X2', ⟨by simp only [List.map_cons]; rw [k.segs], by simpa using k.hold, k.L, k.C, k.room, .cons rfl rfl rfl (Nat.le_refl _) (hm x (by simp)) k.grew, fun h0 y hy => ?_, k.up⟩⟩
      rcases List.mem_cons.1 hy with rfl | hy
      · exact hk
      · exact k.ok h0 y hy
    | true =>
      have e : x.seg.marked = true := hk
      rw [if_pos e]
      have hl : lookN st.N (nameL x.first) = some x.file := h.look (by simp)
      cases hw : wrB st with
      | false =>
        have e1 : syncE st (nameL x.first) = 11 := by unfold syncE; rw [hw]; rfl
        have e2 : syncS st (nameL x.first) = wrS st := by unfold syncS; rw [hw]; rfl
        rw [e1, e2, if_pos (by decide)]
        exact ⟨x :: r, ⟨rfl, h.wr, wrS_L st, wrS_C st, wrS_room st, GrewS.refl hm, fun h0 => absurd (show (11 : Int) = 0 from h0) (by decide), fun hu => by rw [hu.wrB] at hw; cases hw⟩⟩
      | true =>
        have e1 : syncE st (nameL x.first) = 0 := by unfold syncE; rw [hw, hl]; rfl
        have e2 : syncS st (nameL x.first) = syncF (wrS st) (nameL x.first) := by unfold syncS; rw [hw]; rfl
        rw [e1, e2, if_neg (by decide)]
        obtain ⟨g1, g2⟩ := h.wr.syncOne
        obtain ⟨X2', k⟩ := syncSegs_is r (X1 ++ [{ x with sure := (frs x.recs).length, marked := false }]) _ f (by simpa using g2) hm'
        have gL : (syncF (wrS st) (nameL x.first)).L = st.L := by rw [g1]; exact wrS_L st
        have gC : (syncF (wrS st) (nameL x.first)).C = st.C := by rw [g1]; exact wrS_C st
        have gR : (syncF (wrS st) (nameL x.first)).room = st.room := by rw [g1]; exact wrS_room st
        refine ⟨{ x with sure := (frs x.recs).length, marked := false } :: X2', ⟨?_, by simpa using k.hold, k.L.trans gL, k.C.trans gC, k.room.trans gR, .cons rfl rfl rfl (h.sure x (by simp)) (fun _ => rfl) k.grew, fun h0 y hy => ?_, fun hu => ?_⟩⟩
        · simp only [List.map_cons]; rw [k.segs]; rfl
        · rcases List.mem_cons.1 hy with rfl | hy
          · rfl
          · exact k.ok h0 y hy
        · exact k.up (by rw [g1, hu.wrS]; exact hu)

/-! ### the log on the disk -/
structure Logs (st : St) (lg : Lg) (f : Nat) (X : List Sg) (p : Nat) : Prop where
  hold : Hold st f X
  segs : lg.segs = X.map Sg.seg
  last : lg.last + 1 = f + (recsOf X).length
  hand : lg.hand = true → X ≠ []
  pl : p ≤ X.length
  L : st.L = (X.take p).map Sg.nm
  C : st.C = (X.drop p).map Sg.put
  nm : lg.nm = false → p = X.length
  marks : ∀ x ∈ X, x.marked = false → x.sure = (frs x.recs).length
  dur1 : lg.dur ≤ lg.last
  dur2 : ∀ i x, X[i]? = some x → x.first ≤ lg.dur → i < p ∧ (frs (x.recs.take (lg.dur + 1 - x.first))).length ≤ x.sure
theorem Logs.wr {st : St} {lg : Lg} {f p : Nat} {X : List Sg} (h : Logs st lg f X p) : Logs (wrS st) lg f X p := { h with hold := h.hold.wr, L := (wrS_L st).trans h.L, C := (wrS_C st).trans h.C }

/-- The segments behind an Append. -/
def appX (b : Bool) (X : List Sg) (n : Nat) (s : ByteArray) (i : Nat) : List Sg :=
  if b then X ++ [⟨n, [s], i, 0, true⟩] else match X.getLast? with | some x => X.dropLast ++ [{ x with recs := x.recs ++ [s], marked := true }] | none => X
theorem begins_seg {lg : Lg} {X : List Sg} (h : lg.segs = X.map Sg.seg) : begins lg = (!lg.hand || decide ((match X.getLast? with | some x => x.recs.length | none => 0) = 16)) := by
  unfold begins
  rw [h, List.getLast?_map]
  cases X.getLast? with
  | none => rfl
  | some x => simp [Sg.seg]
theorem Logs.append {st : St} {lg : Lg} {f p : Nat} {X : List Sg} (h : Logs st lg f X p) (s : ByteArray) (hs : s.size ≤ 1000) (hw : wrB st = true) (hr : (((frs (recsOf X)).length + lenF s : Nat) : Int) ≤ st.room) (hX : X.length < 64) (hl : lg.last < 99999999) :
    (appendL lg st s).err = 0 ∧ (appendL lg st s).n = lg.last + 1 ∧ Logs (appendL lg st s).st (appendL lg st s).lg f (appX (begins lg) X (lg.last + 1) s st.F.length) p ∧ recsOf (appX (begins lg) X (lg.last + 1) s st.F.length) = recsOf X ++ [s] ∧
      (appendL lg st s).st.room = st.room ∧ (appendL lg st s).lg.dur = lg.dur ∧ (appendL lg st s).lg.last = lg.last + 1 ∧ (Up st → Up (appendL lg st s).st) ∧ (appendL lg st s).lg.hand = true := by
  obtain ⟨e1, e2⟩ := put1 s (by omega)
  have hfull := fun k => h.hold.room s hs hr hX k
  have hla := h.last
  have hd1 := h.dur1
  have htop := h.hold.top
  have hfr : (putA 1 s).data.toList = fr s := rfl
  -- the target's name is one
  have hcase : (begins lg = true ∧ target lg = ⟨lg.last + 1, [], false⟩) ∨ (begins lg = false ∧ ∃ X0 x, X = X0 ++ [x] ∧ target lg = x.seg) := by
    cases hb : begins lg with
    | true => exact .inl ⟨rfl, by unfold target; rw [if_pos hb]⟩
    | false =>
      refine .inr ⟨rfl, ?_⟩
      have hh : lg.hand = true := by
        cases hh : lg.hand with
        | true => rfl
        | false => unfold begins at hb; rw [hh] at hb; simp at hb
      have hne := h.hand hh
      refine ⟨X.dropLast, X.getLast hne, (List.dropLast_concat_getLast hne).symm, ?_⟩
      unfold target
      rw [if_neg (by simp [hb]), h.segs, List.getLast?_map, List.getLast?_eq_some_getLast hne]
      rfl
  have hnm : (target lg).first ≤ 99999999 := by
    rcases hcase with ⟨_, e⟩ | ⟨_, X0, x, hX', e⟩
    · rw [e]; show lg.last + 1 ≤ _; omega
    · rw [e]; exact h.hold.le x (by rw [hX']; simp)
  have hE : appE st (target lg).name (fr s) = 0 := by
    unfold appE
    rw [hw, show isName (target lg).name = true from name_is_name _ hnm, hfull]
    rfl
  have hS : appS st (target lg).name (fr s) = addF (wrS st) (target lg).name (fr s) := by
    unfold appS
    rw [hw, show isName (target lg).name = true from name_is_name _ hnm, hfull]
    rfl
  have hA : appendL lg st s = ⟨appended lg (lenF s), addF (wrS st) (target lg).name (fr s), lg.last + 1, 0⟩ := by
    unfold appendL
    rw [e2, e1, hfr, if_neg (by simp), if_neg (by omega), hE, hS, if_neg (by simp)]
    rfl
  have hup : ∀ k, Up st → Up (addF (wrS st) k (fr s)) := by
    intro k hu
    rw [hu.wrS]
    unfold addF
    split <;> exact hu
  have hrm : ∀ k, (addF (wrS st) k (fr s)).room = st.room := by
    intro k
    unfold addF
    split <;> exact wrS_room st
  rw [hA]
  refine ⟨rfl, rfl, ?_, ?_, hrm _, rfl, rfl, hup _, rfl⟩
  · rcases hcase with ⟨hb, ht⟩ | ⟨hb, X0, x, hX', ht⟩
    · have g := h.wr.hold.begin (n := lg.last + 1) s hs (by omega) (by omega)
      rw [wrS_F] at g
      have hXe : appX (begins lg) X (lg.last + 1) s st.F.length = X ++ [⟨lg.last + 1, [s], st.F.length, 0, true⟩] := by unfold appX; rw [hb]; rfl
      rw [hXe]
      have htn : (target lg).name = nameL (lg.last + 1) := by rw [ht]; rfl
      show Logs (addF (wrS st) (target lg).name (fr s)) (appended lg (lenF s)) _ _ _
      rw [htn]
      have hp := h.pl
      refine ⟨g.2, ?_, ?_, fun _ => by simp, by rw [List.length_append]; omega, ?_, ?_, ?_, ?_, ?_, ?_⟩
      · unfold appended
        simp only [hb, if_true, ht, h.segs, List.map_append, List.map_singleton]
        rfl
      · show lg.last + 1 + 1 = _
        rw [recsOf_append, recsOf_cons, recsOf_nil, List.length_append]; simp; omega
      · rw [g.1]
        show (wrS st).L = _
        rw [wrS_L, h.L, List.take_append_of_le_length hp]
      · rw [g.1]
        show (wrS st).C ++ _ = _
        rw [wrS_C, h.C, List.drop_append_of_le_length hp, List.map_append]
        rfl
      · intro hn
        unfold appended at hn
        simp [hb] at hn
      · intro y hy hm
        rcases List.mem_append.1 hy with hy | hy
        · exact h.marks y hy hm
        · simp at hy; subst hy; cases hm
      · show lg.dur ≤ lg.last + 1; omega
      · intro i y hy hd
        have hd' : y.first ≤ lg.dur := hd
        rcases Nat.lt_or_ge i X.length with hi | hi
        · rw [List.getElem?_append_left hi] at hy
          exact h.dur2 i y hy hd'
        · rw [List.getElem?_append_right hi] at hy
          have : y = ⟨lg.last + 1, [s], st.F.length, 0, true⟩ := by
            cases hj : i - X.length with
            | zero => rw [hj] at hy; simp at hy; exact hy.symm
            | succ j => rw [hj] at hy; simp at hy
          subst this
          have : lg.last + 1 ≤ lg.dur := hd'
          omega
    · subst hX'
      have g := h.wr.hold.more s hs (by omega)
      have hXe : appX (begins lg) (X0 ++ [x]) (lg.last + 1) s st.F.length = X0 ++ [{ x with recs := x.recs ++ [s], marked := true }] := by
        unfold appX; rw [hb, List.getLast?_concat, List.dropLast_concat]; rfl
      rw [hXe]
      have htn : (target lg).name = nameL x.first := by rw [ht]; rfl
      show Logs (addF (wrS st) (target lg).name (fr s)) (appended lg (lenF s)) _ _ _
      rw [htn]
      have hl' : lookN (wrS st).N (nameL x.first) = some x.file := h.wr.hold.look (by simp)
      have hadd : addF (wrS st) (nameL x.first) (fr s) = { wrS st with F := (wrS st).F.modify x.file fun g => { g with s := g.s ++ fr s } } := by unfold addF; rw [hl']
      have hrc : recsOf (X0 ++ [{ x with recs := x.recs ++ [s], marked := true }]) = recsOf (X0 ++ [x]) ++ [s] := by rw [recsOf_append, recsOf_append, recsOf_cons, recsOf_cons, recsOf_nil]; simp
      refine ⟨g, ?_, ?_, fun _ => by simp, by simpa using h.pl, ?_, ?_, ?_, ?_, ?_, ?_⟩
      · unfold appended
        simp only [hb, Bool.false_eq_true, if_false, ht, h.segs, List.map_append, List.map_singleton, List.dropLast_concat]
        simp [Sg.seg]
      · show lg.last + 1 + 1 = _
        rw [hrc, List.length_append]; simp; omega
      · rw [hadd]
        show (wrS st).L = _
        rw [wrS_L, h.L, List.map_take, List.map_take]
        congr 1
        simp [Sg.nm]
      · rw [hadd]
        show (wrS st).C = _
        rw [wrS_C, h.C, List.map_drop, List.map_drop]
        congr 1
        simp [Sg.put]
      · intro hn
        have : lg.nm = false := by
          have hn' : (lg.nm || begins lg) = false := hn
          simpa [hb] using hn'
        simpa using h.nm this
      · intro y hy hm
        rcases List.mem_append.1 hy with hy | hy
        · exact h.marks y (by simp [hy]) hm
        · simp at hy; subst hy; cases hm
      · show lg.dur ≤ lg.last + 1; omega
      · intro i y hy hd
        have hd' : y.first ≤ lg.dur := hd
        show _ ∧ (frs (y.recs.take (lg.dur + 1 - y.first))).length ≤ y.sure
        rcases Nat.lt_or_ge i X0.length with hi | hi
        · rw [List.getElem?_append_left hi] at hy
          exact h.dur2 i y (by rw [List.getElem?_append_left hi]; exact hy) hd'
        · rw [List.getElem?_append_right hi] at hy
          have : i = X0.length ∧ y = { x with recs := x.recs ++ [s], marked := true } := by
            cases hj : i - X0.length with
            | zero => rw [hj] at hy; simp at hy; exact ⟨by omega, hy.symm⟩
            | succ j => rw [hj] at hy; simp at hy
          obtain ⟨rfl, rfl⟩ := this
          have hx0 := h.dur2 X0.length x (by simp) hd'
          refine ⟨hx0.1, ?_⟩
          have hk : lg.dur + 1 - x.first ≤ x.recs.length := by
            have hc := h.hold.chain
            rw [chain_append] at hc
            have h1 := hc.2.1
            rw [recsOf_append, recsOf_cons, recsOf_nil, List.append_nil, List.length_append] at hla
            omega
          show (frs ((x.recs ++ [s]).take (lg.dur + 1 - x.first))).length ≤ x.sure
          rw [List.take_append_of_le_length hk]
          exact hx0.2
  · rcases hcase with ⟨hb, ht⟩ | ⟨hb, X0, x, hX', ht⟩
    · unfold appX; rw [hb, if_pos rfl, recsOf_append, recsOf_cons, recsOf_nil]; rfl
    · subst hX'
      unfold appX
      rw [hb, if_neg (by simp), List.getLast?_concat, List.dropLast_concat]
      simp only
      rw [recsOf_append, recsOf_append, recsOf_cons, recsOf_cons, recsOf_nil]; simp
theorem append_dead {st : St} (lg : Lg) (s : ByteArray) (hs : s.size ≤ 1000) (hw : wrB st = false) (hl : lg.last < 99999999) : appendL lg st s = ⟨lg, wrS st, 0, 11⟩ := by
  obtain ⟨e1, e2⟩ := put1 s (by omega)
  have hE : ∀ k t, appE st k t = 11 := fun k t => by unfold appE; rw [hw]; rfl
  have hS : ∀ k t, appS st k t = wrS st := fun k t => by unfold appS; rw [hw]; rfl
  unfold appendL
  rw [e2, if_neg (by simp), if_neg (by omega), hE, hS, if_pos (by decide)]

theorem settled {X : List Sg} {p : Nat} (hr : X.Pairwise fun a b => a.first < b.first) (ht : ∀ x ∈ X, x.first ≤ 99999999) (q : Nat) : (((X.drop p).map Sg.put).take q).foldl appC ((X.take p).map Sg.nm) = (X.take p ++ (X.drop p).take q).map Sg.nm := by
  rw [← List.map_take]
  have hs : (X.take p ++ (X.drop p).take q).Sublist X := by
    have := List.Sublist.append (List.Sublist.refl (X.take p)) (List.take_sublist q (X.drop p))
    rwa [List.take_append_drop] at this
  exact puts_fold _ _ (hr.sublist hs) fun x hx => ht x (hs.subset hx)

/-- What Sync leaves. -/
structure SyncOut (st : St) (lg : Lg) (f : Nat) (X X' : List Sg) (p' : Nat) (d : Done) : Prop where
  logs : Logs d.st d.lg f X' p'
  grew : GrewS X X'
  room : d.st.room = st.room
  last : d.lg.last = lg.last
  hand : d.lg.hand = lg.hand
  ok : d.err = 0 → p' = X'.length ∧ (∀ x ∈ X', x.marked = false) ∧ d.lg.dur = lg.last
  dur : lg.dur ≤ d.lg.dur
  up : Up st → Up d.st ∧ d.err = 0
theorem Logs.sync {st : St} {lg : Lg} {f p : Nat} {X : List Sg} (h : Logs st lg f X p) : ∃ X' p', SyncOut st lg f X X' p' (syncL lg st) := by
  obtain ⟨X', k⟩ := syncSegs_is X [] st f h.hold h.marks
  rw [← h.segs] at k
  have hk : Hold (syncSegs lg.segs st).st f X' := k.hold
  have hpl : p ≤ X'.length := by rw [k.grew.len]; exact h.pl
  have hd1 := h.dur1
  have base : Logs (syncSegs lg.segs st).st { lg with segs := (syncSegs lg.segs st).segs } f X' p := by
    refine ⟨hk, k.segs, by rw [k.grew.recs]; exact h.last, fun hh e => h.hand hh (List.eq_nil_of_length_eq_zero (by rw [← k.grew.len, e]; rfl)), hpl, ?_, ?_, fun hn => by rw [k.grew.len]; exact h.nm hn, k.grew.marks, h.dur1, ?_⟩
    · rw [k.L, h.L, k.grew.take]
    · rw [k.C, h.C, k.grew.drop]
    · intro i y hy hd
      obtain ⟨x, hx, g1, g2, g3, g4⟩ := k.grew.at hy
      have hd' : x.first ≤ lg.dur := by rw [← g1]; exact hd
      have := h.dur2 i x hx hd'
      refine ⟨this.1, ?_⟩
      show (frs (y.recs.take (lg.dur + 1 - y.first))).length ≤ y.sure
      rw [g1, g2]; omega
  unfold syncL
  by_cases he : (syncSegs lg.segs st).err = 0
  · rw [if_neg (by simp [he])]
    have hok := k.ok he
    have hfull : ∀ x ∈ X', x.sure = (frs x.recs).length := fun x hx => k.grew.marks x hx (hok x hx)
    have hdur : ∀ (i : Nat) (y : Sg), X'[i]? = some y → y.first ≤ lg.last → i < X'.length ∧ (frs (y.recs.take (lg.last + 1 - y.first))).length ≤ y.sure := fun i y hy _ => by
      have hm := List.mem_of_getElem? hy
      refine ⟨(List.getElem?_eq_some_iff.1 hy).1, ?_⟩
      rw [hfull y hm, frs_len, frs_len, List.map_take]
      exact sum_take_le _ _
    cases hn : lg.nm with
    | false =>
      rw [if_neg (by simp)]
      have hp := base.nm hn
      refine ⟨X', p, ⟨{ base with nm := fun _ => hp, dur1 := Nat.le_refl _, dur2 := fun i y hy hd => by rw [hp]; exact hdur i y hy hd }, k.grew, k.room, rfl, rfl, fun _ => ⟨hp, hok, rfl⟩, hd1, fun hu => ⟨(k.up hu).1, rfl⟩⟩⟩
    | true =>
      rw [if_pos rfl]
      cases hw : wrB (syncSegs lg.segs st).st with
      | false =>
        have e1 : snE (syncSegs lg.segs st).st = 11 := by unfold snE; rw [hw]; rfl
        have e2 : snS (syncSegs lg.segs st).st = wrS (syncSegs lg.segs st).st := by unfold snS; rw [hw]; rfl
        rw [e1, e2, if_pos (by decide)]
        exact ⟨X', p, ⟨by have hb := base.wr; rw [hn] at hb; exact hb, k.grew, (wrS_room _).trans k.room, rfl, rfl, fun h0 => absurd (show (11 : Int) = 0 from h0) (by decide), Nat.le_refl _, fun hu => by rw [(k.up hu).1.wrB] at hw; cases hw⟩⟩
      | true =>
        have e1 : snE (syncSegs lg.segs st).st = 0 := by unfold snE; rw [hw]; rfl
        have e2 : snS (syncSegs lg.segs st).st = Dsk.settle (wrS (syncSegs lg.segs st).st) (syncSegs lg.segs st).st.C.length := by unfold snS; rw [hw]; rfl
        rw [e1, e2, if_neg (by decide)]
        have hL : (Dsk.settle (wrS (syncSegs lg.segs st).st) (syncSegs lg.segs st).st.C.length).L = X'.map Sg.nm := by
          unfold Dsk.settle
          simp only [wrS_L, wrS_C]
          rw [base.L, base.C, settled hk.rise hk.le, List.length_map, List.take_length, List.take_append_drop]
        refine ⟨X', X'.length, ⟨⟨hk.wr.congr rfl rfl, base.segs, base.last, base.hand, Nat.le_refl _, ?_, ?_, fun _ => rfl, base.marks, Nat.le_refl _, hdur⟩, k.grew, ?_, rfl, rfl, fun _ => ⟨rfl, hok, rfl⟩, hd1, fun hu => ⟨?_, rfl⟩⟩⟩
        · rw [List.take_length]; exact hL
        · rw [List.drop_length]; rfl
        · exact (wrS_room _).trans k.room
        · have hu' := (k.up hu).1
          unfold Dsk.settle
          rw [hu'.wrS]
          exact hu'
  · rw [if_pos he]
    exact ⟨X', p, ⟨base, k.grew, k.room, rfl, rfl, fun h0 => absurd h0 he, Nat.le_refl _, fun hu => absurd (k.up hu).2 he⟩⟩
end Wal
end Go.Proofs.YtlgjbdfnhaoloaaGreatDoor
end

/- The log (layer 5), plainly: removing segments, a crash, and Open behind it. -/
section
set_option linter.unusedSimpArgs false
set_option linter.unusedVariables false
namespace Go.Proofs.YtlgjbdfnhaoloaaGreatDoor
namespace Wal
open Dig Frm Dsk

/-! ### removing -/
def keepJ (goes : Nat → Bool) : Nat → List Seg → List Seg
  | _, [] => []
  | j, x :: r => if goes j then keepJ goes (j + 1) r else x :: keepJ goes (j + 1) r
def goneJ (goes : Nat → Bool) : Nat → List Seg → List Str
  | _, [] => []
  | j, x :: r => if goes j then x.name :: goneJ goes (j + 1) r else goneJ goes (j + 1) r
structure TookS (st st' : St) (G : List Str) : Prop where
  up : Up st'
  F : st'.F = st.F
  L : st'.L = st.L
  room : st'.room = st.room
  N : st'.N = G.foldl delN st.N
  C : st'.C = st.C ++ G.map Chg.del
theorem TookS.refl {st : St} (h : Up st) : TookS st st [] := ⟨h, rfl, rfl, rfl, rfl, by simp⟩
theorem rem_up {st : St} (h : Up st) {k : Str} (hk : (lookN st.N k).isSome) : remE st k = 0 ∧ remS st k = { st with N := delN st.N k, C := st.C ++ [.del k] } := by
  obtain ⟨i, hi⟩ := Option.isSome_iff_exists.1 hk
  constructor
  · unfold remE; rw [h.wrB, hi]; rfl
  · unfold remS; rw [h.wrB, hi, h.wrS]; rfl
theorem takeL_up (goes : Nat → Bool) : ∀ (l : List Seg) (j : Nat) (st : St), Up st → Rising st.N → (∀ x ∈ l, (lookN st.N x.name).isSome) → (l.map Seg.name).Nodup → ∃ st', takeL Seg.name goes j l st 0 = (keepJ goes j l, st', 0) ∧ TookS st st' (goneJ goes j l)
  | [], j, st, hu, _, _, _ => ⟨st, rfl, TookS.refl hu⟩
  | x :: r, j, st, hu, hr, hl, hn => by
    rw [List.map_cons, List.nodup_cons] at hn
    unfold takeL keepJ goneJ
    cases hg : goes j with
    | false =>
      obtain ⟨st', h1, h2⟩ := takeL_up goes r (j + 1) st hu hr (fun y hy => hl y (by simp [hy])) hn.2
      refine ⟨st', ?_, ?_⟩
      · rw [if_pos (.inr rfl), h1]; rfl
      · simpa [hg] using h2
    | true =>
      obtain ⟨e1, e2⟩ := rem_up hu (hl x (by simp))
      have hu' : Up (remS st x.name) := by rw [e2]; exact hu
      have hN' : (remS st x.name).N = delN st.N x.name := by rw [e2]
      obtain ⟨st', h1, h2⟩ := takeL_up goes r (j + 1) (remS st x.name) hu' (by rw [hN']; exact hr.del _) (fun y hy => by
        rw [hN', look_del_other hr (fun e => hn.1 (List.mem_map.2 ⟨y, hy, e⟩))]
        exact hl y (by simp [hy])) hn.2
      refine ⟨st', ?_, ?_⟩
      · rw [if_neg (by simp), e1, h1]; rfl
      · have e3 : (remS st x.name).F = st.F ∧ (remS st x.name).L = st.L ∧ (remS st x.name).room = st.room ∧ (remS st x.name).C = st.C ++ [.del x.name] := by rw [e2]; exact ⟨rfl, rfl, rfl, rfl⟩
        simp only [if_true]
        exact ⟨h2.up, h2.F.trans e3.1, h2.L.trans e3.2.1, h2.room.trans e3.2.2.1, by rw [h2.N, hN']; rfl, by rw [h2.C, e3.2.2.2]; simp⟩
theorem foldl_del : ∀ (G : List Str) (N : Nms), G.foldl delN N = N.filter fun p => !G.contains p.1
  | [], N => (List.filter_eq_self.2 fun _ _ => rfl).symm
  | k :: r, N => by
    rw [List.foldl_cons, foldl_del r]
    unfold delN
    rw [List.filter_filter]
    congr 1
    funext p
    rw [List.contains_cons]
    cases h : (p.1 == k) <;> simp [h]
theorem look_fold {N : Nms} {G : List Str} {k : Str} (h : k ∉ G) : lookN (G.foldl delN N) k = lookN N k := by
  rw [foldl_del]
  unfold lookN
  congr 1
  induction N with
  | nil => rfl
  | cons p r ih =>
    rw [List.filter_cons, List.find?_cons]
    by_cases hp : p.1 = k
    · rw [if_pos (by simp [hp, h]), List.find?_cons]
      simp [hp]
    · split
      · rw [List.find?_cons]
        have : (p.1 == k) = false := by simpa using hp
        rw [this]; exact ih
      · have : (p.1 == k) = false := by simpa using hp
        rw [this]; exact ih
theorem TookS.now {st st' : St} {G : List Str} (h : TookS st st' G) (hn : st.N = st.C.foldl appC st.L) : st'.N = st'.C.foldl appC st'.L := by
  rw [h.N, h.C, h.L, List.foldl_append, ← hn, List.foldl_map]
  rfl
/-- The names last. -/
theorem settle_up {st : St} (h : Up st) (hn : st.N = st.C.foldl appC st.L) : snE st = 0 ∧ snS st = { st with L := st.N, C := [] } := by
  constructor
  · unfold snE; rw [h.wrB]; rfl
  · unfold snS; rw [h.wrB, h.wrS]
    unfold Dsk.settle
    rw [List.take_length, ← hn]; rfl
theorem names_nodup {X : List Sg} (h : X.Pairwise fun a b => a.first < b.first) (ht : ∀ x ∈ X, x.first ≤ 99999999) : ((X.map Sg.seg).map Seg.name).Nodup := by
  rw [List.map_map]
  unfold List.Nodup
  rw [List.pairwise_map]
  refine h.imp_of_mem ?_
  intro a b ha hb hab e
  have := name_inj (ht a ha) (ht b hb) e
  omega

/-- Those behind a count go. -/
theorem keep_from (k : Nat) : ∀ (l : List Seg) (j : Nat), keepJ (fun i => decide (k ≤ i)) j l = l.take (k - j)
  | [], j => by simp [keepJ]
  | x :: r, j => by
    unfold keepJ
    rw [keep_from k r (j + 1)]
    by_cases h : k ≤ j
    · have e : k - j = 0 := by omega
      have e2 : k - (j + 1) = 0 := by omega
      simp [h, e, e2]
    · obtain ⟨n, hn⟩ : ∃ n, k - j = n + 1 := ⟨k - j - 1, by omega⟩
      have e2 : k - (j + 1) = n := by omega
      simp [h, hn, e2]
theorem gone_from (k : Nat) : ∀ (l : List Seg) (j : Nat), goneJ (fun i => decide (k ≤ i)) j l = (l.drop (k - j)).map Seg.name
  | [], j => by simp [goneJ]
  | x :: r, j => by
    unfold goneJ
    rw [gone_from k r (j + 1)]
    by_cases h : k ≤ j
    · have e : k - j = 0 := by omega
      have e2 : k - (j + 1) = 0 := by omega
      simp [h, e, e2]
    · obtain ⟨n, hn⟩ : ∃ n, k - j = n + 1 := ⟨k - j - 1, by omega⟩
      have e2 : k - (j + 1) = n := by omega
      simp [h, hn, e2]

/-! ### a crash -/
theorem cutAll_other {i : Nat} : ∀ (N : Nms) (keep : List Int) (F : List FileS), (∀ p ∈ N, p.2 ≠ i) → (cutAll keep N F)[i]? = F[i]?
  | [], _, _, _ => rfl
  | p :: r, keep, F, h => by
    unfold cutAll
    rw [cutAll_other r _ _ fun q hq => h q (by simp [hq]), List.getElem?_modify]
    simp [h p (by simp)]
theorem cutAll_cuts {i : Nat} {f : FileS} (hl : f.lasts ≤ f.s.length) : ∀ (N : Nms) (keep : List Int) (F : List FileS), (N.map (·.2)).Nodup → (∃ p ∈ N, p.2 = i) → F[i]? = some f → ∃ m, f.lasts ≤ m ∧ m ≤ f.s.length ∧ (cutAll keep N F)[i]? = some ⟨f.s.take m, m⟩ ∧ (keep = [] → m = f.lasts)
  | [], _, _, _, h, _ => by obtain ⟨p, hp, _⟩ := h; cases hp
  | p :: r, keep, F, hn, h, hF => by
    rw [List.map_cons, List.nodup_cons] at hn
    unfold cutAll
    by_cases e : p.2 = i
    · have hk := kept1_le keep (f.s.length - f.lasts)
      refine ⟨f.lasts + kept1 keep (f.s.length - f.lasts), by omega, by omega, ?_, fun e => by subst e; rfl⟩
      rw [cutAll_other r _ _ fun q hq e2 => hn.1 (List.mem_map.2 ⟨q, hq, by rw [e2, e]⟩), List.getElem?_modify, hF]
      simp only [e, if_true]
      rfl
    · obtain ⟨q, hq, hqi⟩ := h
      have hq' : q ∈ r := by
        rcases List.mem_cons.1 hq with rfl | hq
        · exact absurd hqi e
        · exact hq
      obtain ⟨m, m1, m2, m3, m4⟩ := cutAll_cuts hl r (keep.drop 1) _ hn.2 ⟨q, hq', hqi⟩ (show (F.modify p.2 fun f => cutF f (f.lasts + kept1 keep (f.s.length - f.lasts)))[i]? = some f by rw [List.getElem?_modify, hF]; simp [e])
      exact ⟨m, m1, m2, m3, fun e => m4 (by subst e; rfl)⟩

/-- The disk holds beginnings of these segments' files. -/
structure Torn (st : St) (f : Nat) (Y : List Sg) (M : Sg → Nat) : Prop where
  up : Up st
  N : st.N = Y.map Sg.nm
  L : st.L = st.N
  C : st.C = []
  file : ∀ x ∈ Y, st.F[x.file]? = some ⟨(frs x.recs).take (M x), M x⟩
  most : ∀ x ∈ Y, x.sure ≤ M x ∧ M x ≤ (frs x.recs).length
  chain : Chain f Y
  pos : 1 ≤ f
  top : f + (recsOf Y).length ≤ 100000000
  small : ∀ r ∈ recsOf Y, r.size ≤ 1000
theorem recsOf_take_le (X : List Sg) (p : Nat) : (recsOf (X.take p)).length ≤ (recsOf X).length ∧ ∀ r ∈ recsOf (X.take p), r ∈ recsOf X := by
  have h : recsOf X = recsOf (X.take p) ++ recsOf (X.drop p) := by rw [← recsOf_append, List.take_append_drop]
  rw [h]
  exact ⟨by simp, fun r hr => by simp [hr]⟩
theorem Logs.crash {st : St} {lg : Lg} {f p : Nat} {X : List Sg} (h : Logs st lg f X p) (keep : List Int) : ∃ p' M, p ≤ p' ∧ p' ≤ X.length ∧ Torn (Dsk.crash st keep) f (X.take p') M ∧ (Dsk.crash st keep).room = st.room ∧ (keep = [] → p' = p ∧ ∀ x ∈ X.take p', M x = x.sure) := by
  have hpl := h.pl
  have hk := kept1_le keep st.C.length
  have hCl : st.C.length = X.length - p := by rw [h.C, List.length_map, List.length_drop]
  have hN : (Dsk.crash st keep).N = (X.take (p + kept1 keep st.C.length)).map Sg.nm := by
    show (st.C.take (kept1 keep st.C.length)).foldl appC st.L = _
    rw [h.L]
    conv => lhs; rw [h.C]
    rw [settled h.hold.rise h.hold.le]
    congr 1
    rw [← h.C, List.take_add]
  have hsub : ∀ x ∈ X.take (p + kept1 keep st.C.length), x ∈ X := fun x hx => List.mem_of_mem_take hx
  have hnd : (((X.take (p + kept1 keep st.C.length)).map Sg.nm).map (·.2)).Nodup := by
    rw [List.map_map]
    exact ((List.take_sublist _ X).map Sg.file).nodup h.hold.fresh
  have hex : ∀ x : Sg, ∃ m, x ∈ X.take (p + kept1 keep st.C.length) → x.sure ≤ m ∧ m ≤ (frs x.recs).length ∧ (Dsk.crash st keep).F[x.file]? = some ⟨(frs x.recs).take m, m⟩ ∧ (keep = [] → m = x.sure) := by
    intro x
    by_cases hx : x ∈ X.take (p + kept1 keep st.C.length)
    · obtain ⟨m, m1, m2, m3, m4⟩ := cutAll_cuts (f := ⟨frs x.recs, x.sure⟩) (h.hold.sure x (hsub x hx)) _ (keep.drop 1) st.F hnd ⟨x.nm, List.mem_map.2 ⟨x, hx, rfl⟩, rfl⟩ (h.hold.file x (hsub x hx))
      refine ⟨m, fun _ => ⟨m1, m2, ?_, fun e => m4 (by subst e; rfl)⟩⟩
      show (cutAll (keep.drop 1) (Dsk.crash st keep).N st.F)[x.file]? = _
      rw [hN]; exact m3
    · exact ⟨0, fun h => absurd h hx⟩
  have htk := recsOf_take_le X (p + kept1 keep st.C.length)
  have htop := h.hold.top
  refine ⟨p + kept1 keep st.C.length, fun x => Classical.choose (hex x), by omega, by omega, ⟨⟨rfl, rfl⟩, hN, rfl, rfl, fun x hx => (Classical.choose_spec (hex x) hx).2.2.1, fun x hx => ⟨(Classical.choose_spec (hex x) hx).1, (Classical.choose_spec (hex x) hx).2.1⟩, chain_take h.hold.chain _, h.hold.pos, by omega, fun r hr => h.hold.small r (htk.2 r hr)⟩, rfl, fun e => ⟨by subst e; rfl, fun x hx => (Classical.choose_spec (hex x) hx).2.2.2 e⟩⟩

/-! ### Open behind a crash -/
theorem Torn.le {st : St} {f : Nat} {Y : List Sg} {M : Sg → Nat} (h : Torn st f Y M) : ∀ x ∈ Y, 1 ≤ x.first ∧ x.first ≤ 99999999 := fun x hx => by
  have := chain_ge h.chain x hx; have := h.top; have := h.pos; omega
theorem Torn.look {st : St} {f : Nat} {Y : List Sg} {M : Sg → Nat} (h : Torn st f Y M) {x : Sg} (hx : x ∈ Y) : lookN st.N (nameL x.first) = some x.file := by rw [h.N]; exact look_seg (chain_rise h.chain) (fun x hx => (h.le x hx).2) hx
theorem Torn.bytes {st : St} {f : Nat} {Y : List Sg} {M : Sg → Nat} (h : Torn st f Y M) {x : Sg} (hx : x ∈ Y) : readA st (nameL x.first) = (frs x.recs).take (M x) := by
  unfold readA
  rw [if_neg (by simp [h.up.1]), h.look hx]
  simp only [List.getD_eq_getElem?_getD, h.file x hx, Option.getD_some]
theorem filterMap_some {α β : Type} {g : α → Option β} {f : α → β} : ∀ {l : List α}, (∀ x ∈ l, g x = some (f x)) → l.filterMap g = l.map f
  | [], _ => rfl
  | x :: r, h => by rw [List.filterMap_cons, h x (by simp), List.map_cons, filterMap_some fun y hy => h y (by simp [hy])]
def wh (M : Sg → Nat) (x : Sg) : Nat := whole x.recs (M x)
theorem Torn.found {st : St} {f : Nat} {Y : List Sg} {M : Sg → Nat} (h : Torn st f Y M) : found st = (cutsTo (wh M) Y).map Sg.seg := by
  have hn : names st = Y.map fun x => nameL x.first := by unfold names; rw [if_neg (by simp [h.up.1]), h.N, List.map_map]; rfl
  unfold Wal.found
  rw [hn, List.filterMap_map]
  have : ∀ x ∈ Y, (foundOne st ∘ fun x => nameL x.first) x = some (x.cutTo (wh M x)).seg := by
    intro x hx
    obtain ⟨l1, l2⟩ := h.le x hx
    show (firstN (nameL x.first)).map _ = _
    rw [first_name _ l1 l2]
    have hb : (fileB st (nameL x.first)).data.toList = (frs x.recs).take (M x) := by unfold fileB; rw [bytes_of, h.bytes hx]
    have hg := good_cut (fileB st (nameL x.first)) x.recs (M x) (fun r hr => by have := h.small r (mem_recsOf hx hr); omega) hb
    simp only [Option.map_some]
    rw [hg]
    rfl
  unfold cutsTo
  rw [List.map_map]
  exact filterMap_some this
theorem chain_last : ∀ {X : List Sg} {f b : Nat}, Chain f X → 1 ≤ f → (X = [] → b = f - 1) → lastOf (X.map Sg.seg) b = f + (recsOf X).length - 1
  | [], f, b, _, _, hb => by unfold lastOf; simp [recsOf]; exact hb rfl
  | [x], f, b, h, hf, _ => by
    unfold lastOf
    simp only [List.map_cons, List.map_nil, List.getLast?_singleton]
    rw [seg_last, h.1, recsOf_cons, recsOf_nil, List.append_nil]
  | x :: y :: r, f, b, h, hf, _ => by
    have ih := chain_last (X := y :: r) (f := f + x.recs.length) (b := b) h.2.2 (by omega) (fun e => by cases e)
    rw [recsOf_cons, List.length_append]
    have e : lastOf ((x :: y :: r).map Sg.seg) b = lastOf ((y :: r).map Sg.seg) b := by
      unfold lastOf
      rw [List.getLast?_map, List.getLast?_map, List.getLast?_cons_cons]
    rw [e, ih]; omega
theorem cutsTo_names (W : Sg → Nat) (Y : List Sg) : ((cutsTo W Y).map Sg.seg).map Seg.name = (Y.map Sg.seg).map Seg.name := by
  unfold cutsTo; rw [List.map_map, List.map_map, List.map_map]; rfl
theorem cutsTo_nm (W : Sg → Nat) (Y : List Sg) : (cutsTo W Y).map Sg.nm = Y.map Sg.nm := by
  unfold cutsTo; rw [List.map_map]; rfl

/-- What Open finds behind a crash. -/
structure Opens (st : St) (f : Nat) (Y : List Sg) (M : Sg → Nat) (d k : Nat) (o : Opened) : Prop where
  kl : k ≤ Y.length
  err : o.err = 0
  lg : o.lg = some ⟨((cutsTo (wh M) Y).take k).map Sg.seg, false, false, (recsOf ((cutsTo (wh M) Y).take k)).length, (recsOf ((cutsTo (wh M) Y).take k)).length⟩
  chain : Chain 1 ((cutsTo (wh M) Y).take k)
  recs : recsOf ((cutsTo (wh M) Y).take k) = (recsOf Y).take (recsOf ((cutsTo (wh M) Y).take k)).length
  dur : d ≤ (recsOf ((cutsTo (wh M) Y).take k)).length
  reads : Reads o.st ((cutsTo (wh M) Y).take k)
  up : Up o.st
  F : o.st.F = st.F
  room : o.st.room = st.room
  all : k = Y.length → o.st = st
  C : o.st.C = []
theorem Torn.open {st : St} {Y : List Sg} {M : Sg → Nat} (h : Torn st 1 Y M) (d : Nat) (hd : d ≤ (recsOf Y).length) (hD : ∀ x ∈ Y, x.first ≤ d → min (d + 1 - x.first) x.recs.length ≤ wh M x) : ∃ k, Opens st 1 Y M d k (openL st 0) := by
  obtain ⟨k, k1, k2, k3, k4, k5⟩ := belong_chain (wh M) d Y 0 0 0 h.chain (fun x _ => whole_le _ _) hD (by omega) (fun _ => rfl)
  rw [Nat.zero_add] at k2 k5
  have hbel : belong ((cutsTo (wh M) Y).map Sg.seg) 0 = k := by
    unfold belong
    rw [k2, if_neg (Nat.not_lt_zero _)]
    simp only
    split <;> omega
  have hrise := chain_rise h.chain
  have hle : ∀ x ∈ Y, x.first ≤ 99999999 := fun x hx => (h.le x hx).2
  have hRN : Rising st.N := by rw [h.N]; exact rising_of hrise hle
  obtain ⟨st1, t1, t2⟩ := takeL_up (fun i => decide (k ≤ i)) ((cutsTo (wh M) Y).map Sg.seg) 0 st h.up hRN (fun s hs => by
    obtain ⟨y, hy, rfl⟩ := List.mem_map.1 hs
    obtain ⟨x, hx, rfl⟩ := List.mem_map.1 hy
    show (lookN st.N (nameL x.first)).isSome
    rw [h.look hx]; rfl) (by rw [cutsTo_names]; exact names_nodup hrise hle)
  rw [keep_from, gone_from, Nat.sub_zero] at *
  have hnow : st.N = st.C.foldl appC st.L := by rw [h.C, h.L]; rfl
  obtain ⟨s1, s2⟩ := settle_up t2.up (t2.now hnow)
  have hcl : (cutsTo (wh M) Y).length = Y.length := by unfold cutsTo; rw [List.length_map]
  -- what is read of those that stay
  have hreads : ∀ st', st'.F = st.F → st'.dead = false → (∀ x ∈ Y.take k, lookN st'.N (nameL x.first) = some x.file) → Reads st' ((cutsTo (wh M) Y).take k) := by
    intro st' hF hdd hlk x hx
    unfold cutsTo at hx
    rw [← List.map_take] at hx
    obtain ⟨y, hy, rfl⟩ := List.mem_map.1 hx
    have hyY := List.mem_of_mem_take hy
    have hl := hlk y hy
    refine ⟨?_, ?_⟩
    · show readE st' (nameL y.first) = 0
      unfold readE; rw [if_neg (by simp [hdd]), hl]; rfl
    · obtain ⟨rest, hrest⟩ := whole_rest y.recs (M y)
      refine ⟨rest, ?_⟩
      show readA st' (nameL y.first) = frs (y.recs.take (whole y.recs (M y))) ++ rest
      unfold readA
      rw [if_neg (by simp [hdd]), hl]
      simp only [List.getD_eq_getElem?_getD, hF, h.file y hyY, Option.getD_some]
      exact hrest
  have hkeep : ∀ x ∈ Y.take k, lookN st1.N (nameL x.first) = some x.file := by
    intro x hx
    rw [t2.N, look_fold ?_]
    · exact h.look (List.mem_of_mem_take hx)
    · intro hm
      rw [List.map_drop, cutsTo_names, ← List.map_drop, ← List.map_drop, List.map_map] at hm
      obtain ⟨z, hz, hzn⟩ := List.mem_map.1 hm
      have hzY := List.mem_of_mem_drop hz
      have e := name_inj (hle z hzY) (hle x (List.mem_of_mem_take hx)) hzn
      have hp := hrise
      rw [← List.take_append_drop k Y, List.pairwise_append] at hp
      have := hp.2.2 x hx z hz
      omega
  have hlast : lastOf (((cutsTo (wh M) Y).take k).map Sg.seg) 0 = (recsOf ((cutsTo (wh M) Y).take k)).length := by
    rw [chain_last k3 (Nat.le_refl _) (fun _ => rfl)]; omega
  have hT : ∀ T : Tidied, openT st 0 = T → T.err = 0 → T.segs = ((cutsTo (wh M) Y).take k).map Sg.seg → openL st 0 = ⟨some ⟨((cutsTo (wh M) Y).take k).map Sg.seg, false, false, (recsOf ((cutsTo (wh M) Y).take k)).length, (recsOf ((cutsTo (wh M) Y).take k)).length⟩, T.st, 0⟩ := by
    intro T e1 e2 e3
    unfold openL
    rw [if_neg (by omega), if_neg (by simp [h.up.1])]
    simp only [Int.toNat_zero]
    rw [e1, e2, if_neg (by simp), e3, hlast]
  have htk : ((cutsTo (wh M) Y).map Sg.seg).take k = ((cutsTo (wh M) Y).take k).map Sg.seg := by rw [List.map_take]
  rcases Nat.lt_or_ge k Y.length with hk | hk
  · have hO : openT st 0 = ⟨((cutsTo (wh M) Y).take k).map Sg.seg, { st1 with L := st1.N, C := [] }, 0⟩ := by
      unfold openT
      rw [h.found, hbel]
      unfold tidyL
      rw [t1]
      simp only
      rw [if_neg, s1, s2, htk]
      rintro (hh | hh)
      · exact hh rfl
      · rw [List.length_take, List.length_map, hcl] at hh; omega
    have hL := hT _ hO rfl rfl
    refine ⟨k, k1, ?_, ?_, k3, k4, k5, ?_, ?_, ?_, ?_, fun e => by omega, by rw [hL]⟩ <;> rw [hL]
    · exact hreads _ t2.F t2.up.1 hkeep
    · exact t2.up
    · exact t2.F
    · exact t2.room
  · obtain rfl : k = Y.length := by omega
    have hst1 : st1 = st := by
      have hg : (((cutsTo (wh M) Y).map Sg.seg).drop Y.length).map Seg.name = [] := by rw [List.drop_of_length_le (by rw [List.length_map, hcl]; exact Nat.le_refl _)]; rfl
      rw [hg] at t2
      obtain ⟨u1, u2, u3, u4, u5, u6⟩ := t2
      obtain ⟨v1, v2⟩ := u1
      obtain ⟨w1, w2⟩ := h.up
      cases st1; cases st
      simp only [List.foldl_nil, List.map_nil, List.append_nil] at *
      simp only [*]
    rw [hst1] at t1
    have hO : openT st 0 = ⟨((cutsTo (wh M) Y).take Y.length).map Sg.seg, st, 0⟩ := by
      unfold openT
      rw [h.found, hbel]
      unfold tidyL
      rw [t1]
      simp only
      rw [if_pos, htk]
      exact .inr (by rw [List.length_take, List.length_map, hcl]; omega)
    have hL := hT _ hO rfl rfl
    refine ⟨Y.length, k1, ?_, ?_, k3, k4, k5, ?_, ?_, ?_, ?_, fun e => ?_, by rw [hL]; exact h.C⟩ <;> rw [hL]
    · exact hreads _ rfl h.up.1 fun x hx => h.look (List.mem_of_mem_take hx)
    · exact h.up

/-! ### behind a crash -/
theorem opens_eq {st : St} {Y : List Sg} {M : Sg → Nat} {d k : Nat} {o : Opened} (h : Opens st 1 Y M d k o) : o = ⟨o.lg, o.st, 0⟩ := by rw [← h.err]
/-- A log that is synced is as it was. -/
theorem Logs.anew {st : St} {lg : Lg} {p : Nat} {X : List Sg} (h : Logs st lg 1 X p) (hp : p = X.length) (hm : ∀ x ∈ X, x.marked = false) (keep : List Int) :
    ∃ lg', openL (Dsk.crash st keep) 0 = ⟨some lg', Dsk.crash st keep, 0⟩ ∧ Logs (Dsk.crash st keep) lg' 1 X X.length ∧ Up (Dsk.crash st keep) ∧ lg'.last = lg.last ∧ lg'.hand = false ∧ lg'.dur = lg.last ∧ (Dsk.crash st keep).room = st.room := by
  obtain ⟨p', M, p1, p2, ht, hr, -⟩ := h.crash keep
  obtain rfl : p' = X.length := by omega
  rw [List.take_length] at ht
  have hfull : ∀ x ∈ X, M x = (frs x.recs).length := fun x hx => by have := ht.most x hx; have := h.marks x hx (hm x hx); omega
  have hW : ∀ x ∈ X, wh M x = x.recs.length := fun x hx => by unfold wh; rw [hfull x hx, whole_all]
  have hcut : cutsTo (wh M) X = X := by
    unfold cutsTo
    refine (List.map_congr_left fun x hx => ?_).trans (List.map_id X)
    have hmk := hm x hx
    have hw := hW x hx
    obtain ⟨a1, a2, a3, a4, a5⟩ := x
    unfold Sg.cutTo
    simp only at hmk hw
    rw [hw, hmk]
    simp
  obtain ⟨k, ho⟩ := ht.open (recsOf X).length (Nat.le_refl _) (fun x hx _ => by rw [hW x hx]; omega)
  have heq := opens_eq ho
  obtain ⟨o1, o2, o3, o4, o5, o6, o7, o8, o9, o10, o11, -⟩ := ho
  rw [hcut] at o3 o4 o5 o6 o7
  have hk : k = X.length := by
    have hc := ht.chain
    rw [← List.take_append_drop k X, chain_append] at hc
    have h1 := chain_len hc.2
    have h2 : (recsOf X).length = (recsOf (X.take k)).length + (recsOf (X.drop k)).length := by rw [← List.length_append, ← recsOf_append, List.take_append_drop]
    rw [List.length_drop] at h1
    omega
  subst hk
  rw [List.take_length] at o3 o4 o5 o6 o7
  have hst := o11 rfl
  have hla := h.last
  refine ⟨⟨X.map Sg.seg, false, false, (recsOf X).length, (recsOf X).length⟩, ?_, ?_, ht.up, by show (recsOf X).length = _; omega, rfl, by show (recsOf X).length = _; omega, hr⟩
  · rw [heq, o3, hst]
  · refine ⟨⟨ht.N, fun x hx => ?_, h.hold.fresh, ht.chain, ht.pos, ht.top, ht.small, h.hold.sure⟩, rfl, by show (recsOf X).length + 1 = _; omega, fun e => (by cases e), Nat.le_refl _, by rw [List.take_length, ht.L, ht.N], by rw [List.drop_length, ht.C]; rfl, fun _ => rfl, h.marks, Nat.le_refl _, fun i x hx _ => ⟨(List.getElem?_eq_some_iff.1 hx).1, ?_⟩⟩
    · rw [ht.file x hx, hfull x hx, List.take_length, h.marks x hx (hm x hx)]
    · have hxm := List.mem_of_getElem? hx
      rw [h.marks x hxm (hm x hxm), frs_len, frs_len, List.map_take]
      exact sum_take_le _ _
/-- Any log: what lasts, and a beginning of the rest. -/
theorem Logs.behind {st : St} {lg : Lg} {p : Nat} {X : List Sg} (h : Logs st lg 1 X p) (keep : List Int) :
    ∃ lg' st', openL (Dsk.crash st keep) 0 = ⟨some lg', st', 0⟩ ∧ lg.dur ≤ lg'.last ∧ lg'.last ≤ lg.last ∧ st'.F = (Dsk.crash st keep).F ∧ st'.C = [] ∧ (∀ (j : Nat) (r : ByteArray), j < lg'.last → (recsOf X)[j]? = some r → readL st' ((1 + j : Nat) : Int) lg'.segs = (r, 0)) ∧
      (keep = [] → ∀ x, X = [x] → p = 1 → ∀ k, k ≤ x.recs.length → x.sure = (frs (x.recs.take k)).length → lg'.last ≤ k) := by
  obtain ⟨p', M, p1, p2, ht, hr, hnil⟩ := h.crash keep
  have hla := h.last
  have hd1 := h.dur1
  have hsplit : recsOf X = recsOf (X.take p') ++ recsOf (X.drop p') := by rw [← recsOf_append, List.take_append_drop]
  have hd : lg.dur ≤ (recsOf (X.take p')).length := by
    refine Nat.le_of_not_lt fun hlt => ?_
    rcases Nat.lt_or_ge p' X.length with hp | hp
    · have hc := h.hold.chain
      rw [← List.take_append_drop p' X, chain_append, List.drop_eq_getElem_cons hp] at hc
      have := (h.dur2 p' X[p'] (List.getElem?_eq_getElem hp) (by rw [hc.2.1]; omega)).1
      omega
    · rw [List.take_of_length_le hp] at hlt; omega
  obtain ⟨k, ho⟩ := ht.open lg.dur hd (fun x hx hf => by
    obtain ⟨i, hi⟩ := List.mem_iff_getElem?.1 (List.mem_of_mem_take hx)
    have h2 := (h.dur2 i x hi hf).2
    have h3 := ht.most x hx
    unfold wh
    refine whole_ge _ _ _ (Nat.min_le_right _ _) ?_
    rcases Nat.le_total (lg.dur + 1 - x.first) x.recs.length with h4 | h4
    · rw [Nat.min_eq_left h4]; omega
    · rw [Nat.min_eq_right h4, List.take_length]
      rw [List.take_of_length_le h4] at h2; omega)
  have hZ := ho.recs
  have hlen : (recsOf ((cutsTo (wh M) (X.take p')).take k)).length ≤ (recsOf (X.take p')).length := by
    have := congrArg List.length hZ
    rw [List.length_take] at this; omega
  refine ⟨_, _, (opens_eq ho).trans (by rw [ho.lg]), ho.dur, ?_, ho.F, ho.C, ?_, ?_⟩
  · show (recsOf ((cutsTo (wh M) (X.take p')).take k)).length ≤ lg.last
    have := congrArg List.length hsplit
    rw [List.length_append] at this
    omega
  · intro j r hj hjr
    refine read_chain ho.chain (fun x hx r hr => ?_) ho.reads j r ?_
    · have := mem_recsOf hx hr
      rw [hZ] at this
      have := ht.small r (List.mem_of_mem_take this)
      omega
    · have hj' : j < (recsOf ((cutsTo (wh M) (X.take p')).take k)).length := hj
      rw [hZ, List.getElem?_take_of_lt hj']
      rw [hsplit, List.getElem?_append_left (by omega)] at hjr
      exact hjr
  · intro e x hX hp1 n hn hs
    obtain ⟨e1, e2⟩ := hnil e
    subst hX
    obtain rfl : p' = 1 := by omega
    have hx := e2 x (by simp)
    have hw : wh M x = n := by
      unfold wh
      rw [hx, hs]
      have h1 := whole_ge x.recs (frs (x.recs.take n)).length n hn (Nat.le_refl _)
      have h2 := whole_le x.recs (frs (x.recs.take n)).length
      refine Nat.le_antisymm (Nat.le_of_not_lt fun hlt => ?_) h1
      obtain ⟨rest, hrest⟩ := whole_rest x.recs (frs (x.recs.take n)).length
      have h3 := congrArg List.length hrest
      have h4 : (frs (x.recs.take (n + 1))).length ≤ (frs (x.recs.take (whole x.recs (frs (x.recs.take n)).length))).length := by
        have e : x.recs.take (n + 1) = (x.recs.take (whole x.recs (frs (x.recs.take n)).length)).take (n + 1) := by rw [List.take_take, Nat.min_eq_left (by omega)]
        rw [e]
        generalize x.recs.take (whole x.recs (frs (x.recs.take n)).length) = Q
        rw [frs_len, frs_len, List.map_take]
        exact sum_take_le _ _
      have h5 : (frs (x.recs.take (n + 1))).length = (frs (x.recs.take n)).length + lenF (x.recs[n]'(by omega)) := by
        rw [List.take_succ_eq_append_getElem (by omega), frs_append, List.length_append]; simp [frs, fr_len]
      have h6 := lenF_pos (x.recs[n]'(by omega))
      rw [List.length_take, List.length_append] at h3
      omega
    show (recsOf ((cutsTo (wh M) ([x].take 1)).take k)).length ≤ n
    have hc : cutsTo (wh M) ([x].take 1) = [x.cutTo n] := by rw [List.take_of_length_le (by simp)]; show [x.cutTo (wh M x)] = _; rw [hw]
    rw [hc]
    have h7 := (recsOf_take_le [x.cutTo n] k).1
    have hl1 : (recsOf [x.cutTo n]).length = n := by rw [recsOf_cons, recsOf_nil, List.append_nil]; show (x.recs.take n).length = n; rw [List.length_take]; omega
    omega
end Wal
end Go.Proofs.YtlgjbdfnhaoloaaGreatDoor
end
