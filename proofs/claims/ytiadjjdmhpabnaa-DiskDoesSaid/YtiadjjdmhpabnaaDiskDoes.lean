/- DiskDoes, walked: what is in which file is what the document says, whatever is done. -/
import Derived.Test.YtiadjjdmhpabnaaDiskPair2
import Derived.Test.YtiadjjdmhpabnaaDiskOps
namespace Go.Proofs.Ytiadjjdmhpabnaa
open Go.RowKit Go.Sort
namespace Dsk
open Go.Maps
set_option linter.unusedVariables false

/-! ### how much k acts can have made -/
structure Grew (k : Nat) (st : St) : Prop where
  nF : st.F.length ≤ k
  nC : st.C.length ≤ k
  big : ∀ f ∈ st.F, f.s.length ≤ 1000 * k
  neg : st.room < 0 → st.F = []
theorem Grew.more {k : Nat} {st : St} (h : Grew k st) : Grew (k + 1) st := ⟨Nat.le_succ_of_le h.nF, Nat.le_succ_of_le h.nC, fun f hf => Nat.le_trans (h.big f hf) (Nat.mul_le_mul_left _ (Nat.le_succ k)), h.neg⟩
theorem grew_new (r : Int) : Grew 0 (new r) := ⟨Nat.le_refl _, Nat.le_refl _, (fun f hf => by cases hf), fun _ => rfl⟩
theorem Grew.wr {k : Nat} {st : St} (h : Grew k st) : Grew k (wrS st) := by
  unfold wrS
  split
  · exact ⟨h.nF, h.nC, h.big, h.neg⟩
  · split <;> exact ⟨h.nF, h.nC, h.big, h.neg⟩
theorem Grew.chg {k : Nat} {st : St} (h : Grew k st) (c : Chg) : Grew (k + 1) (Dsk.chg st c) :=
  ⟨Nat.le_succ_of_le h.nF, by show (st.C ++ [c]).length ≤ _; rw [List.length_append, List.length_singleton]; have := h.nC; omega, h.more.big, h.neg⟩
theorem neg_used {st : St} (hf : Fine st) (h : st.F = []) : used st = 0 := by
  have : st.N = [] := by
    cases hN : st.N with
    | nil => rfl
    | cons p r =>
      have := hf.nmN.ins p (by rw [hN]; exact List.mem_cons_self)
      rw [h] at this; simp at this
  unfold used; rw [this]; rfl
theorem Grew.app {k : Nat} {st : St} (hf : Fine st) (h : Grew k st) (n s : Str) (hs : s.length ≤ 1000) : Grew (k + 1) (appS st n s) := by
  have h' := h.wr
  have hf' := hf.wr
  unfold appS
  by_cases hc : (wrB st && isName n && !full (wrS st) n s) = true
  · rw [if_pos hc]
    have hroom : ¬ (wrS st).room < 0 := by
      intro hneg
      have h0 := neg_used hf' (h'.neg hneg)
      have : full (wrS st) n s = true := by
        unfold full
        rw [h0, show decide ((wrS st).room < ((0 + s.length : Nat) : Int)) = true from decide_eq_true (by omega)]
        rfl
      rw [this] at hc; simp at hc
    generalize wrS st = st1 at *
    unfold addF
    cases hl : lookN st1.N n with
    | some i =>
      simp only
      refine ⟨by simp only [List.length_modify]; exact Nat.le_succ_of_le h'.nF, Nat.le_succ_of_le h'.nC, ?_, fun hn => absurd hn hroom⟩
      refine mem_modify2 h'.big (fun f hb => ?_) (fun f hb => ?_)
      · rw [List.length_append]; omega
      · omega
    | none =>
      simp only
      refine ⟨by simp only [List.length_append, List.length_singleton]; have := h'.nF; omega, by simp only [List.length_append, List.length_singleton]; have := h'.nC; omega, fun f hm => ?_, fun hn => absurd hn hroom⟩
      rcases List.mem_append.1 hm with hm | hm
      · have := h'.big f hm; omega
      · rw [List.mem_singleton.1 hm]; show s.length ≤ _; omega
  · rw [if_neg hc]; exact h'.more
theorem Grew.act {k : Nat} {st : St} (hf : Fine st) (h : Grew k st) (K : Int) (nm nt s : Str) (n : Int) (ks : List Int) (hs : s.length ≤ 1000) : Grew (k + 1) (actS K nm nt s n ks st) := by
  have h' := h.wr
  unfold actS
  split
  · exact h.app hf nm s hs
  split
  · unfold syncS
    split
    · unfold syncF
      split
      · have h2 := h'.more
        refine ⟨by simp only [List.length_modify]; exact h2.nF, h2.nC, mem_modify h2.big fun f hb => hb, fun hn => ?_⟩
        show (List.modify _ _ _) = []
        rw [h2.neg hn]; simp
      · exact h'.more
    · exact h'.more
  split
  · unfold renS
    split
    · exact h'.chg _
    · exact h'.more
  split
  · unfold remS
    split
    · exact h'.chg _
    · exact h'.more
  split
  · unfold snS
    split
    · have h2 := h'.more
      exact ⟨h2.nF, Nat.zero_le _, h2.big, h2.neg⟩
    · exact h'.more
  split
  · unfold fuse
    split
    · exact h.more
    · have h2 := h.more
      exact ⟨h2.nF, h2.nC, h2.big, h2.neg⟩
  split
  · have h2 := h.more
    have e : (crash st ks).F.length = st.F.length := len_cutAll _ _ _
    refine ⟨by rw [e]; exact h2.nF, Nat.zero_le _, cutAll_mem (P := fun f => f.s.length ≤ 1000 * (k + 1)) (fun f m hb => Nat.le_trans (List.length_take_le' _ _) hb) _ _ _ h2.big, fun hn => ?_⟩
    have : st.F = [] := h2.neg hn
    exact List.eq_nil_of_length_eq_zero (by rw [e, this]; rfl)
  · exact h.more
theorem Grew.fit {k : Nat} {st : St} (hf : Fine st) (h : Grew k st) (hk : k ≤ 121) (hr : -9223372036854775808 ≤ st.room) {z : Nat} (hz : z ≤ 1000) : RFit st z := by
  have hb : ∀ f ∈ st.F, f.s.length ≤ 121000 := fun f hm => by
    have h1 := h.big f hm
    have : 1000 * k ≤ 1000 * 121 := Nat.mul_le_mul_left _ hk
    omega
  have hu : used st ≤ 7744000 := by
    have h1 : Dsk.used st ≤ (st.N.map fun p => (st.F.getD p.2 default).s.length).length * 121000 := sum_le 121000 _ fun x hx => by
      obtain ⟨p, hp, rfl⟩ := List.mem_map.1 hx
      have hl := hf.nmN.ins p hp
      rw [List.getD_eq_getElem?_getD, List.getElem?_eq_getElem hl]
      exact hb _ (List.getElem_mem hl)
    rw [List.length_map] at h1
    have h2 := Nat.mul_le_mul_right 121000 hf.nmN.len
    omega
  have hroom : -9223372036854775808 ≤ st.room - (used st : Int) := by
    by_cases hn : st.room < 0
    · rw [neg_used hf (h.neg hn)]; omega
    · omega
  exact ⟨⟨by omega, fun f hm => by have := hb f hm; omega, by have := h.nC; omega, by omega⟩, hroom, by have := h.nF; omega, hf⟩

/-! ### SameTexts -/
def RowS (w : World) (v : Value) (l : List Str) : Prop := w.ownsRow 0 9 1 v l.length (l.map sv)
theorem RowS.upon {w w' : World} {v : Value} {l : List Str} (h : RowS w v l) (hu : Upon (fun _ => False) w w') : RowS w' v l := ownsRow_kept h fun b hb => hu.block b (World.ownsRow.lt h b hb).2 (fun f => f)
theorem RowS.cells {w : World} {v : Value} {l : List Str} (h : RowS w v l) : ∃ g c A, v = .slice A l.length c ∧ l.length ≤ c ∧ c ≤ maxLen ∧ (l ≠ [] → A = some ⟨g, 0, none⟩) ∧ ∀ j s, l[j]? = some s → w.cell? ⟨g, j, none⟩ = some (sv s) := by
  have hcells := fun g => World.ownsRow.cells h (g := g)
  rcases h.2 with ⟨hv, h0⟩ | ⟨gb, cap, cur, hv, hb, hg, hnc, hcm, _⟩
  · exact ⟨0, 0, none, by rw [hv, h0], by omega, Nat.zero_le _, fun hn => absurd (List.eq_nil_of_length_eq_zero h0) hn, fun j s hj => by rw [List.eq_nil_of_length_eq_zero h0] at hj; simp at hj⟩
  · refine ⟨gb, cap, _, hv, hnc, hcm, fun _ => rfl, fun j s hj => ?_⟩
    have := hcells gb (by rw [hv]; rfl) j (sv s) (by rw [List.getElem?_map, hj]; rfl)
    rwa [at_of_add] at this
set_option maxRecDepth 100000 in
set_option maxHeartbeats 1600000 in
theorem same_any (w : World) (v1 v2 : Value) (l : List Str) (h1 : RowS w v1 l) (h2 : RowS w v2 l) :
    Calls Try.prog 10 #[v1, v2] w fun e w' => e = .returned (.bool true) ∧ Upon (fun _ => False) w w' := by
  obtain ⟨g1, c1, A1, rfl, m1, n1, a1, x1⟩ := h1.cells
  obtain ⟨g2, c2, A2, rfl, m2, n2, a2, x2⟩ := h2.cells
  unfold maxLen at n1 n2
  have X1 := Lib.hid x1
  have X2 := Lib.hid x2
  have AA1 := Lib.hid a1
  have AA2 := Lib.hid a2
  clear h1 h2 x1 x2 a1 a2
  go_enter Try.func10, Try.ntmps10
  go_wp2_with fail
  go_loopw [5] (fun i wr => ∃ j n : Nat, j ≤ l.length ∧ i = .int .i64 (j : Int) ∧ wr = w.drewN n) (fun i _ => l.length - (intOf i).toNat)
  case atStart => exact ⟨0, 0, Nat.zero_le _, rfl, rfl⟩
  case round =>
    obtain ⟨j, n, hj, rfl, rfl⟩ := hrel
    by_cases hlt : j < l.length
    · obtain ⟨s, hs⟩ : ∃ s, l[j]? = some s := ⟨_, List.getElem?_eq_getElem hlt⟩
      have hne : l ≠ [] := by intro e; rw [e] at hlt; simp at hlt
      obtain rfl := AA1.out hne
      obtain rfl := AA2.out hne
      have y1 := X1.out j s hs
      have y2 := X2.out j s hs
      obtain ⟨xs, hxs⟩ : ∃ xs : ByteArray, xs = ⟨s.toArray⟩ := ⟨_, rfl⟩
      unfold sv at y1 y2
      rw [← hxs] at y1 y2
      clear hxs hs hne
      go_wp2_with fail
      go_quiet (fail)
      go_wp2
      refine ⟨⟨j + 1, n + nq, by omega, by push_cast; rfl, rfl⟩, ?_⟩
      simp only [intOf]; omega
    · have : j = l.length := by omega
      subst this
      go_wp2_with fail
      go_ret
      exact ⟨rfl, quiet_upon _ _⟩
end Dsk
end Go.Proofs.Ytiadjjdmhpabnaa
