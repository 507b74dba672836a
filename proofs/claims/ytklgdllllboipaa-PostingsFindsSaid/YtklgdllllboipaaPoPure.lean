/- Rising lists of numbers, plainly (layer 14): what is rising, how it is told by its members; the library's 'compact' of a sorted list; a number put at its place; the numbers below n that are asked for. Names no function of the program. -/
import Derived.Lib.SlicesCompact
set_option maxRecDepth 100000
namespace Go.Proofs.Ytklgdllllboipaa
namespace Po
set_option linter.unusedVariables false
/-- Rising. -/
abbrev Up (l : List Int) : Prop := l.Pairwise (· < ·)
theorem up_ext : ∀ {l m : List Int}, Up l → Up m → (∀ x, x ∈ l ↔ x ∈ m) → l = m
  | [], [], _, _, _ => rfl
  | [], b :: m, _, _, h => absurd ((h b).2 (List.mem_cons_self ..)) (by simp)
  | a :: l, [], _, _, h => absurd ((h a).1 (List.mem_cons_self ..)) (by simp)
  | a :: l, b :: m, hl, hm, h => by
    obtain ⟨hl1, hl2⟩ := List.pairwise_cons.1 hl
    obtain ⟨hm1, hm2⟩ := List.pairwise_cons.1 hm
    have e : a = b := by
      rcases List.mem_cons.1 ((h a).1 (List.mem_cons_self ..)) with e | k
      · exact e
      · rcases List.mem_cons.1 ((h b).2 (List.mem_cons_self ..)) with e | k'
        · exact e.symm
        · have := hm1 a k; have := hl1 b k'; omega
    subst e
    congr 1
    refine up_ext hl2 hm2 fun x => ⟨fun hx => ?_, fun hx => ?_⟩
    · rcases List.mem_cons.1 ((h x).1 (List.mem_cons_of_mem _ hx)) with e | k
      · have := hl1 x hx; omega
      · exact k
    · rcases List.mem_cons.1 ((h x).2 (List.mem_cons_of_mem _ hx)) with e | k
      · have := hm1 x hx; omega
      · exact k
theorem up_filter {l : List Int} (h : Up l) (p : Int → Bool) : Up (l.filter p) := h.filter p

/-! ### compact -/
theorem compact_up {d : Array Int} (hs : ∀ i j, i ≤ j → j < d.size → d[i]! ≤ d[j]!) : ∀ m, m ≤ d.size → Up (Lib.compactUpTo d m) ∧ ∀ x, x ∈ Lib.compactUpTo d m ↔ ∃ j, j < m ∧ d[j]! = x
  | 0, _ => by simp [Lib.compactUpTo]
  | m + 1, hm => by
    obtain ⟨h1, h2⟩ := compact_up hs m (by omega)
    rw [Lib.compactUpTo_succ]
    by_cases hk : Lib.keeps d m = true
    · rw [if_pos hk]
      refine ⟨List.pairwise_append.2 ⟨h1, by simp, fun a ha b hb => ?_⟩, fun x => ?_⟩
      · obtain ⟨j, hj, rfl⟩ := (h2 a).1 ha
        rw [List.mem_singleton.1 hb]
        have a1 := hs j (m - 1) (by omega) (by omega)
        have a2 := hs (m - 1) m (by omega) (by omega)
        simp only [Lib.keeps, decide_eq_true_eq] at hk
        rcases hk with hk | hk
        · omega
        · omega
      · rw [List.mem_append, h2, List.mem_singleton]
        constructor
        · rintro (⟨j, hj, e⟩ | e)
          · exact ⟨j, by omega, e⟩
          · exact ⟨m, by omega, e.symm⟩
        · rintro ⟨j, hj, e⟩
          by_cases h : j = m
          · subst h; exact .inr e.symm
          · exact .inl ⟨j, by omega, e⟩
    · rw [if_neg hk, List.append_nil]
      refine ⟨h1, fun x => (h2 x).trans ?_⟩
      simp only [Lib.keeps, decide_eq_true_eq, not_or, Decidable.not_not] at hk
      constructor
      · rintro ⟨j, hj, e⟩
        exact ⟨j, by omega, e⟩
      · rintro ⟨j, hj, e⟩
        by_cases h : j = m
        · subst h; exact ⟨j - 1, by omega, hk.2 ▸ e⟩
        · exact ⟨j, by omega, e⟩
theorem compact_sorted (zs : List Int) : Up (Lib.compact (zs.mergeSort fun x y => decide (x ≤ y))) ∧ ∀ x, x ∈ Lib.compact (zs.mergeSort fun x y => decide (x ≤ y)) ↔ x ∈ zs := by
  have hp : (zs.mergeSort fun x y => decide (x ≤ y)).Pairwise (fun x y => decide (x ≤ y) = true) := List.pairwise_mergeSort (fun a b c h1 h2 => by simp only [decide_eq_true_eq] at *; omega) (fun a b => by simp only [Bool.or_eq_true, decide_eq_true_eq]; omega) zs
  have hm : ∀ x, x ∈ zs.mergeSort (fun x y => decide (x ≤ y)) ↔ x ∈ zs := fun x => (List.mergeSort_perm zs _).mem_iff
  generalize zs.mergeSort (fun x y => decide (x ≤ y)) = l at hp hm
  have hg : ∀ i (h : i < l.length), l.toArray[i]! = l[i] := fun i h => by rw [getElem!_pos _ i (by simpa using h)]; simp
  obtain ⟨h1, h2⟩ := compact_up (d := l.toArray) (fun i j hij hj => by
    have hj' : j < l.length := by simpa using hj
    rw [hg i (by omega), hg j hj']
    by_cases e : i = j
    · subst e; exact Int.le_refl _
    · have := List.pairwise_iff_getElem.1 hp i j (by omega) hj' (by omega)
      simpa using this) l.length (by simp)
  refine ⟨h1, fun x => (h2 x).trans ?_⟩
  rw [← hm]
  constructor
  · rintro ⟨j, hj, e⟩
    rw [hg j hj] at e
    exact e ▸ List.getElem_mem _
  · intro hx
    obtain ⟨j, hj, e⟩ := List.mem_iff_getElem.1 hx
    exact ⟨j, hj, by rw [hg j hj, e]⟩

/-! ### a number at its place -/
theorem mem_ins {l : List Int} {i : Nat} {n x : Int} : x ∈ l.take i ++ [n] ++ l.drop i ↔ x = n ∨ x ∈ l := by
  have e : x ∈ l ↔ x ∈ l.take i ∨ x ∈ l.drop i := by rw [← List.mem_append, List.take_append_drop]
  rw [List.mem_append, List.mem_append, List.mem_singleton, e]
  constructor
  · rintro ((h | h) | h) <;> simp [h]
  · rintro (h | h | h) <;> simp [h]
theorem up_ins {l : List Int} (h : Up l) {i : Nat} {n : Int} (hi : i ≤ l.length) (hlt : ∀ j (hj : j < l.length), j < i → l[j] < n) (hge : ∀ hj : i < l.length, n < l[i]) : Up (l.take i ++ [n] ++ l.drop i) := by
  have hg := List.pairwise_iff_getElem.1 h
  have ht : ∀ x ∈ l.take i, x < n := fun x hx => by
    obtain ⟨j, hj, e⟩ := List.mem_iff_getElem.1 hx
    rw [List.getElem_take] at e
    have hj' : j < i := by simp at hj; omega
    rw [← e]; exact hlt j (by omega) hj'
  have hd : ∀ x ∈ l.drop i, n < x := fun x hx => by
    obtain ⟨j, hj, e⟩ := List.mem_iff_getElem.1 hx
    rw [List.getElem_drop] at e
    have hj' : i + j < l.length := by simp at hj; omega
    have h0 := hge (by omega)
    rw [← e]
    by_cases hj0 : j = 0
    · subst hj0; exact h0
    · exact Int.lt_trans h0 (hg i (i + j) (by omega) hj' (by omega))
  refine List.pairwise_append.2 ⟨List.pairwise_append.2 ⟨h.sublist (List.take_sublist ..), by simp, fun a ha b hb => ?_⟩, h.sublist (List.drop_sublist ..), fun a ha b hb => ?_⟩
  · rw [List.mem_singleton.1 hb]; exact ht a ha
  · rcases List.mem_append.1 ha with ha | ha
    · exact Int.lt_trans (ht a ha) (hd b hb)
    · rw [List.mem_singleton.1 ha]; exact hd b hb

/-! ### the numbers below n that are asked for -/
def sel (f : Nat → Bool) : Nat → List Int
  | 0 => []
  | n + 1 => sel f n ++ (if f n then [(n : Int)] else [])
theorem sel_yes {f : Nat → Bool} {n : Nat} (h : f n = true) : sel f (n + 1) = sel f n ++ [(n : Int)] := by rw [sel, if_pos h]
theorem sel_no {f : Nat → Bool} {n : Nat} (h : f n = false) : sel f (n + 1) = sel f n := by rw [sel, if_neg (by simp [h]), List.append_nil]
theorem mem_sel {f : Nat → Bool} {x : Int} : ∀ {n : Nat}, x ∈ sel f n ↔ ∃ i, i < n ∧ f i = true ∧ x = (i : Int)
  | 0 => by simp [sel]
  | n + 1 => by
    rw [sel, List.mem_append, mem_sel]
    constructor
    · rintro (⟨i, h1, h2, h3⟩ | h)
      · exact ⟨i, by omega, h2, h3⟩
      · by_cases hf : f n = true
        · rw [if_pos hf] at h; exact ⟨n, by omega, hf, List.mem_singleton.1 h⟩
        · rw [if_neg hf] at h; simp at h
    · rintro ⟨i, h1, h2, h3⟩
      by_cases e : i = n
      · subst e; rw [if_pos h2]; exact .inr (by simp [h3])
      · exact .inl ⟨i, by omega, h2, h3⟩
theorem sel_len (f : Nat → Bool) : ∀ n, (sel f n).length ≤ n
  | 0 => by simp [sel]
  | n + 1 => by
    have := sel_len f n
    rw [sel, List.length_append]
    split <;> simp <;> omega
theorem sel_up (f : Nat → Bool) : ∀ n, Up (sel f n)
  | 0 => by simp [sel]
  | n + 1 => by
    refine List.pairwise_append.2 ⟨sel_up f n, by split <;> simp, fun a ha b hb => ?_⟩
    obtain ⟨i, h1, h2, rfl⟩ := mem_sel.1 ha
    split at hb
    · rw [List.mem_singleton.1 hb]; omega
    · simp at hb
theorem sel_congr {f g : Nat → Bool} : ∀ {n : Nat}, (∀ i, i < n → f i = g i) → sel f n = sel g n
  | 0, _ => rfl
  | n + 1, h => by rw [sel, sel, sel_congr (fun i hi => h i (by omega)), h n (by omega)]
theorem sel_all (n : Nat) : ∀ x, x ∈ sel (fun _ => true) n ↔ ∃ i, i < n ∧ x = (i : Int) := fun x => by rw [mem_sel]; simp
/-- What a filter of a list that holds all that are asked for gives. -/
theorem filter_sel {N : List Int} {f : Nat → Bool} {g : Int → Bool} {n : Nat} (hN : Up N) (h1 : ∀ x ∈ N, ∃ i, i < n ∧ x = (i : Int)) (h2 : ∀ i, i < n → f i = true → (i : Int) ∈ N) (hg : ∀ i : Nat, i < n → g i = f i) : N.filter g = sel f n := by
  refine up_ext (up_filter hN g) (sel_up f n) fun x => ?_
  rw [List.mem_filter, mem_sel]
  constructor
  · rintro ⟨hx, hgx⟩
    obtain ⟨i, hi, rfl⟩ := h1 x hx
    exact ⟨i, hi, by rw [← hg i hi]; exact hgx, rfl⟩
  · rintro ⟨i, hi, hf, rfl⟩
    exact ⟨h2 i hi hf, by rw [hg i hi]; exact hf⟩
theorem filter_take {l : List Int} {g : Int → Bool} {j : Nat} (h : j < l.length) : (l.take (j + 1)).filter g = (l.take j).filter g ++ (if g l[j] then [l[j]] else []) := by
  rw [List.take_add_one, List.filter_append, List.getElem?_eq_getElem h]
  simp [List.filter_cons]
end Po
end Go.Proofs.Ytklgdllllboipaa
