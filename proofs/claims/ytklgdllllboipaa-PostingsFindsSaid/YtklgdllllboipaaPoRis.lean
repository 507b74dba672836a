/- The library's steps over lists of numbers, said of rows of the call's own (layer 14): Clone, Sort, Compact, DeleteFunc, BinarySearch; the program's rising. -/
import Derived.Test.YtklgdllllboipaaPoRef3
import Derived.Test.YtklgdllllboipaaPoLay
import Derived.Sort.OwnSortedInts
set_option maxRecDepth 100000
namespace Go.Proofs.Ytklgdllllboipaa
open Go.RowKit Go.Sort
namespace Po
open Bit Dsk Ob Dig
set_option linter.unusedVariables false
theorem cells_int (l : List Int) : Rw.cells layI l = l.map (Value.int .i64) := by
  induction l with
  | nil => rfl
  | cons a l ih => rw [Rw.cells_cons, ih]; rfl
theorem IMine.of {w : World} {base n : Nat} {v : Value} {l : List Int} (h : w.ownsRow base 3 1 v n (l.map (Value.int .i64))) (hn : n = l.length) : IMine w v l := by
  subst hn
  obtain ⟨h1, h2⟩ := h
  refine ⟨by rw [Rw.cells_len], ?_⟩
  rcases h2 with h2 | ⟨g, c, cur, e1, e2, e3, e4, e5, e6, e7⟩
  · exact .inl h2
  · exact .inr ⟨g, c, cur, e1, Nat.zero_le _, e3, e4, e5, e6, by rw [cells_int]; exact e7⟩
theorem IMine.blk {w : World} {g n c : Nat} {l : List Int} (h : IMine w (.slice (some ⟨g, 0, none⟩) n c) l) : ∃ cur, w.heap[g]? = some (.cells cur 3 (0, 0)) ∧ n = l.length ∧ l.length ≤ c ∧ c ≤ maxLen ∧ cur.size = c * 1 ∧ cur.toList.take l.length = l.map (Value.int .i64) := by
  rcases h.2 with ⟨h0, _⟩ | ⟨g', c', cur, hv, -, hg, h1, h2, h3, h4⟩
  · cases h0
  · injection hv with e1 e2 e3
    injection e1 with e1
    injection e1 with e1
    subst e1 e2 e3
    exact ⟨cur, hg, rfl, h1, h2, h3, by rw [cells_int] at h4; rw [← h4]; show _ = cur.toList.take (l.length * 1); rw [Nat.mul_one]⟩
/-- A beginning of it. -/
theorem IMine.till {w : World} {g n c : Nat} {l : List Int} (h : IMine w (.slice (some ⟨g, 0, none⟩) n c) l) {k : Nat} (hk : k ≤ l.length) : IMine w (.slice (some ⟨g, 0, none⟩) k c) (l.take k) := by
  obtain ⟨cur, hg, -, h2, h3, h4, h5⟩ := h.blk
  refine IMine.of (base := 0) (n := k) ⟨by simp; omega, .inr ⟨g, c, cur, rfl, Nat.zero_le _, hg, by omega, h3, h4, ?_⟩⟩ (by simp; omega)
  rw [Nat.mul_one, List.map_take, ← h5, List.take_take, Nat.min_eq_left hk]

/-! ### Clone -/
theorem clone_any (w : World) (S : Nat → Prop) (v : Value) (l : List Int) (hv : IView w S v l) (hl : l.length ≤ 1000000) :
    Calls Try.prog 27 #[v] w fun e w' => ∃ v', e = .returned v' ∧ IMine w' v' l ∧ (∀ g, v'.ownBlock = some g → w.heap.size ≤ g) ∧ New0 w w' := by
  obtain ⟨A, c, rfl, -, -⟩ := Rw.View.shape hv
  have low : ∀ (w' : World) (v' : Value) (n : Nat) (xs : List Value), w'.ownsRow w.heap.size 3 1 v' n xs → ∀ g, v'.ownBlock = some g → w.heap.size ≤ g := fun w' v' n xs h g hg => (World.ownsRow.lt h g hg).1
  cases A with
  | none =>
    have h0 : l = [] := by
      by_cases hp : 0 < l.length
      · obtain ⟨b, off, k1, -⟩ := IView.cells hv hp
        cases k1
      · exact List.length_eq_zero_iff.1 (by omega)
    subst h0
    exact (Any.slices_Clone_int_nil cloneL 0 c w).mono fun e w' ⟨h1, h2⟩ => ⟨_, h1, Rw.Mine.nil _ _ _, fun g h => (by cases h), by rw [h2]; exact Upon.refl _ _⟩
  | some a =>
    by_cases hp : 0 < l.length
    · obtain ⟨b, off, k1, -, -, hc⟩ := IView.cells hv hp
      injection k1 with k1
      subst k1
      refine (Any.slices_Clone_int cloneL b off l.length c l w (Nat.le_refl _) (by omega) (fun j hj => by rw [hc j hj, List.getD_eq_getElem?_getD, List.getElem?_eq_getElem hj]; rfl)).mono fun e w' ⟨v', h1, h2, _, h3⟩ => ?_
      rw [List.take_length] at h2
      exact ⟨v', h1, IMine.of h2 rfl, low _ _ _ _ h2, Upon.of_below h3 _⟩
    · have h0 : l = [] := List.length_eq_zero_iff.1 (by omega)
      subst h0
      exact (Any.slices_Clone_int_zero cloneL a c w).mono fun e w' ⟨v', h1, h2, _, h3⟩ => ⟨v', h1, IMine.of (l := []) h2 rfl, low _ _ _ _ h2, Upon.of_below h3 _⟩

/-! ### Sort, Compact -/
/-- Behind a step that turned a row's cells. -/
theorem IMine.turned {w : World} {g c n : Nat} {l ts : List Int} {os : Array Go.Obj} (h : IMine w (.slice (some ⟨g, 0, none⟩) l.length c) l) (hl : ts.length = l.length) :
    IMine (grow (putRow (Value.int .i64) (Sort.ahead w n) g 0 ts.toArray) os) (.slice (some ⟨g, 0, none⟩) l.length c) ts ∧ Upon (fun k => k = g) w (grow (putRow (Value.int .i64) (Sort.ahead w n) g 0 ts.toArray) os) := by
  obtain ⟨cur, hg, -, h2, h3, h4, h5⟩ := h.blk
  refine ⟨IMine.of (ownsRow_sortedI (n := n) (os := os) hl (Nat.zero_le _) hg h2 h3 h4) hl.symm, ?_⟩
  have hgr := grownBy_sortedI (w := w) (g := g) (n := n) (os := os) ts.toArray
  exact Upon.grown (Upon.refl _ w) hgr fun k hk => .inl (Option.some.inj hk).symm
theorem sort_any (w : World) (v : Value) (l : List Int) (hm : IMine w v l) (hl : l.length ≤ 1000000) :
    Calls Try.prog 36 #[v] w fun e w' => e = .returned (.tuple #[]) ∧ IMine w' v (l.mergeSort fun x y => decide (x ≤ y)) ∧ Upon (fun k => v.ownBlock = some k) w w' := by
  rcases Rw.Mine.shape hm with ⟨rfl, rfl⟩ | ⟨g, c, rfl, -, -, hg⟩
  · exact (Any.slices_Sort_int_none sortL none 0 w).mono fun e w' ⟨h1, h2⟩ => ⟨h1, by rw [h2]; simpa using hm, by rw [h2]; exact Upon.refl _ _⟩
  · obtain ⟨cur, hgb, -, h2, h3, h4, h5⟩ := hm.blk
    refine (Any.slices_Sort_int sortL g 0 c l w (holds_of_blockI hgb h5) hg (by omega)).mono fun e w' ⟨k1, n, os, k2⟩ => ?_
    subst k2
    obtain ⟨q1, q2⟩ := IMine.turned (n := n) (os := os) (ts := l.mergeSort fun x y => decide (x ≤ y)) hm (by simp)
    exact ⟨k1, q1, q2.mono fun k _ e => by rw [e]; rfl⟩
theorem cut_any {w w' : World} {g c q : Nat} {l r : List Int} (hm : IMine w (.slice (some ⟨g, 0, none⟩) l.length c) l) (hr : r.length ≤ l.length) (h : w' = putRow (Value.int .i64) (Sort.ahead w q) g 0 (r ++ List.replicate (l.length - r.length) 0).toArray) :
    IMine w' (.slice (some ⟨g, 0, none⟩) r.length c) r ∧ Upon (fun k => (Value.slice (some ⟨g, 0, none⟩) l.length c).ownBlock = some k) w w' := by
  have ht : (r ++ List.replicate (l.length - r.length) 0).length = l.length := by simp; omega
  obtain ⟨q1, q2⟩ := IMine.turned (n := q) (os := #[]) hm ht
  rw [grow_empty, ← h] at q1 q2
  have q3 := q1.till (k := r.length) (by rw [ht]; exact hr)
  rw [List.take_left'  rfl] at q3
  exact ⟨q3, q2.mono fun k _ e => by rw [e]; rfl⟩
theorem compact_len (l : List Int) : (Lib.compact l).length ≤ l.length := by
  unfold Lib.compact Lib.compactUpTo
  rw [List.length_map]
  exact Nat.le_trans (List.length_filter_le _ _) (by simp)
theorem compact_any (w : World) (v : Value) (l : List Int) (hm : IMine w v l) (hl : l.length ≤ 1000000) :
    Calls Try.prog 37 #[v] w fun e w' => ∃ v', e = .returned v' ∧ IMine w' v' (Lib.compact l) ∧ v'.ownBlock = v.ownBlock ∧ Upon (fun k => v.ownBlock = some k) w w' := by
  rcases Rw.Mine.shape hm with ⟨rfl, rfl⟩ | ⟨g, c, rfl, -, -, hg⟩
  · exact (Any.slices_Compact_int_empty compL none 0 w).mono fun e w' ⟨h1, h2⟩ => ⟨_, h1, by rw [h2]; exact hm, rfl, by rw [h2]; exact Upon.refl _ _⟩
  · obtain ⟨cur, hgb, -, h2, h3, h4, h5⟩ := hm.blk
    refine (Any.slices_Compact_int compL g 0 c l w (holds_of_blockI hgb h5) (by omega) h2).mono fun e w' ⟨k1, q, k2⟩ => ?_
    obtain ⟨q1, q2⟩ := cut_any (q := q) hm (compact_len l) k2
    exact ⟨_, k1, q1, rfl, q2⟩

/-! ### BinarySearch -/
theorem search_any (w : World) (S : Nat → Prop) (v : Value) (l : List Int) (x : Int) (hv : IView w S v l) (hl : l.length ≤ 1000000) (hs : Up l) :
    Calls Try.prog 35 #[v, .int .i64 x] w fun e w' => ∃ i : Int, e = .returned (.tuple #[.int .i64 i, .bool (decide (x ∈ l))]) ∧ ∃ q, w' = w.drewN q := by
  obtain ⟨A, c, rfl, -, -⟩ := Rw.View.shape hv
  by_cases hp : 0 < l.length
  · obtain ⟨b, off, rfl, -, -, hc⟩ := IView.cells hv hp
    refine (Any.slices_BinarySearch_int findL b off l.length c l x w (Nat.le_refl _) (by omega) (fun j hj => by rw [hc j hj, List.getD_eq_getElem?_getD, List.getElem?_eq_getElem hj]; rfl) (by rw [List.take_length]; exact hs.imp (fun h => Int.le_of_lt h))).mono fun e w' ⟨h1, h2⟩ => ?_
    rw [List.take_length] at h1
    exact ⟨_, by rw [h1, show l.contains x = decide (x ∈ l) from List.contains_eq_mem ..], h2⟩
  · have h0 : l = [] := List.length_eq_zero_iff.1 (by omega)
    subst h0
    exact (Any.slices_BinarySearch_int_empty findL A c x w).mono fun e w' ⟨h1, h2⟩ => ⟨0, by rw [h1]; rfl, 0, h2⟩

/-! ### DeleteFunc -/
theorem delete_any (w : World) (v : Value) (l : List Int) (p : Int → Bool) (f : Nat) (lb : Array Value) (hm : IMine w v l) (hl : l.length ≤ 1000000) (eg : ∀ args w, (callFunc f args).run Try.prog w = .ok (.enter f args) w)
    (hp : ∀ (W : World) (x : Int), Upon (fun k => v.ownBlock = some k) w W → FnGives Try.prog f lb #[.int .i64 x] (.bool (p x)) W) :
    Calls Try.prog 33 #[v, .func (.func f) #[] lb] w fun e w' => ∃ v', e = .returned v' ∧ IMine w' v' (l.filter fun x => !p x) ∧ v'.ownBlock = v.ownBlock ∧ Upon (fun k => v.ownBlock = some k) w w' := by
  rcases Rw.Mine.shape hm with ⟨rfl, rfl⟩ | ⟨g, c, rfl, -, -, hg⟩
  · have HI := Lib.hid (AnyE.slices_IndexFunc_empty (ρ := delL_ren) { delL with } none 0 (.func (.func f) #[] lb) w)
    have hE : Hid (∃ v', Ending.returned (.slice none 0 0) = .returned v' ∧ IMine w v' [] ∧ v'.ownBlock = (Value.slice none 0 0).ownBlock ∧ Upon (fun k => (Value.slice none 0 0).ownBlock = some k) w w) := Lib.hid ⟨_, rfl, hm, rfl, Upon.refl _ _⟩
    clear hm hp eg
    go_enter Try.func33, Try.ntmps33
    go_wp2_with fail
    refine HI.out.mono ?_
    rintro e w2 ⟨rfl, rfl⟩
    go_wp2_with fail
    go_ret
    exact hE.out
  · obtain ⟨cur, hgb, -, h2, h3, h4, h5⟩ := hm.blk
    have e0 : (l.toArray.toList.filter fun x => !p x) = l.filter fun x => !p x := by simp
    refine (AnyE.slices_DeleteFunc delL (Value.int .i64) (fun _ => rfl) p f lb eg 0 (fun w => Try.zeroValue3 w) g 0 c l.toArray w (fun W x hb => hp W x (Upon.of_below hb _)) (fun n os dk x hd => hp _ x ?_) (holds_of_blockI hgb h5) (by simp; omega) (by simpa using h2)).mono fun e w' ⟨k1, q, k2⟩ => ?_
    · exact Upon.grown (Upon.refl _ w) (grownBy_sortedI dk) fun k hk => .inl (by rw [← hk]; rfl)
    · rw [e0] at k1 k2
      simp only [List.size_toArray] at k2
      obtain ⟨q1, q2⟩ := cut_any (q := q) hm (List.length_filter_le _ _) k2
      exact ⟨_, k1, q1, rfl, q2⟩

/-- Rising, each once. -/
theorem rising_any (w : World) (S : Nat → Prop) (v : Value) (l : List Int) (hv : IView w S v l) (hl : l.length ≤ 1000000) :
    Calls Try.prog 24 #[v] w fun e w' => ∃ v' r, e = .returned v' ∧ IMine w' v' r ∧ (∀ g, v'.ownBlock = some g → w.heap.size ≤ g) ∧ Up r ∧ (∀ x, x ∈ r ↔ x ∈ l) ∧ r.length ≤ l.length ∧ New0 w w' := by
  have HC := Lib.hid (clone_any w S v l hv hl)
  obtain ⟨A, c, rfl, -, -⟩ := Rw.View.shape hv
  clear hv
  go_enter Try.func24, Try.ntmps24
  go_wp2_with fail
  refine HC.out.mono ?_
  rintro e w2 ⟨v2, rfl, hm2, ho2, hu2⟩
  have HS := Lib.hid (sort_any w2 v2 l hm2 hl)
  clear HC hm2
  go_wp2_with fail
  refine HS.out.mono ?_
  rintro e w3 ⟨rfl, hm3, hu3⟩
  have HK := Lib.hid (compact_any w3 v2 _ hm3 (by simpa using hl))
  obtain ⟨c1, c2⟩ := compact_sorted l
  have c3 := compact_len (l.mergeSort fun x y => decide (x ≤ y))
  rw [List.length_mergeSort] at c3
  generalize (Lib.compact (l.mergeSort fun x y => decide (x ≤ y))) = r at c1 c2 c3 HK
  have hR := Lib.hid (And.intro c1 (And.intro c2 c3))
  clear HS hm3 c1 c2 c3
  have hn3 : Hid (New0 w w3) := Lib.hid (hu2.trans' hu3 fun k hk e => absurd (ho2 k e) (by omega))
  have hn4 : Hid (∀ w', Upon (fun k => v2.ownBlock = some k) w3 w' → New0 w w') := Lib.hid fun w' h => hn3.out.trans' h fun k hk e => absurd (ho2 k e) (by omega)
  replace ho2 := Lib.hid ho2
  clear hu2 hu3 hn3
  go_wp2_with fail
  refine HK.out.mono ?_
  rintro e w4 ⟨v4, rfl, hm4, ho4, hu4⟩
  have hE : Hid (∃ v' r, Ending.returned v4 = .returned v' ∧ IMine w4 v' r ∧ (∀ g, v'.ownBlock = some g → w.heap.size ≤ g) ∧ Up r ∧ (∀ x, x ∈ r ↔ x ∈ l) ∧ r.length ≤ l.length ∧ New0 w w4) :=
    Lib.hid ⟨v4, r, rfl, hm4, fun g h => ho2.out g (by rw [← ho4]; exact h), hR.out.1, hR.out.2.1, hR.out.2.2, hn4.out _ hu4⟩
  clear HK hm4 ho4 hu4 hR hn4 ho2
  go_wp2_with fail
  go_ret
  exact hE.out
end Po
end Go.Proofs.Ytklgdllllboipaa
