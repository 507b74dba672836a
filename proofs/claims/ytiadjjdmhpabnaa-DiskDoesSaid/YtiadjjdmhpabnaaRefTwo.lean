/- The document's own disk (layer 4): SyncNames, at, name, kept. -/
import Derived.Test.YtiadjjdmhpabnaaRefOne
namespace Go.Proofs.Ytiadjjdmhpabnaa
open Go.RowKit
namespace Dsk
open Go.Maps

theorem refsettle {w : World} {S : Nat → Prop} {q : Nat} {st : St} {g : RGhost} (h : RefM w S q st g) (hn : st.N = st.C.foldl appC st.L) :
    RStep S q (settle st st.C.length) w ((w.setCell ⟨q, 3, none⟩ g.nv).setCell ⟨q, 4, none⟩ (.slice none 0 0)) := by
  have hL : (settle st st.C.length).L = st.N := by unfold settle; simp only [List.take_length]; exact hn.symm
  refine ⟨⟨S, ⟨{ g with lv := g.nv, cv := .slice none 0 0 }, h.turn (by rw [setR (setR h.cell)]; rfl) (fun b hb => by rw [Below.heap_setCell _ _ _ _ hb, Below.heap_setCell _ _ _ _ hb]) (by simp [World.setCell]) ⟨rfl, rfl⟩ ⟨rfl, rfl⟩ (.inr ⟨hL, rfl⟩) (.inr ⟨rfl, rfl⟩) rfl h.wl⟩, fun _ h => h, fun _ h => .inl h⟩, ?_⟩
  exact ((Upon.refl S w).setCell (p := ⟨q, 3, none⟩) (.inl h.s_q) _).setCell (p := ⟨q, 4, none⟩) (.inl h.s_q) _

set_option maxHeartbeats 1600000 in
theorem refsn_any (S : Nat → Prop) (q : Nat) (st : St) (hn : st.N = st.C.foldl appC st.L) (w : World) (h : IsRef w S q st) :
    Calls Try.prog 27 #[.pointer (some ⟨q, 0, none⟩)] w fun e w' => e = .returned (.int .i64 (snE st)) ∧ RStep S q (snS st) w w' := by
  cases hb : wrB st with
  | false =>
    have e1 : snE st = 11 := by simp [snE, hb]
    have e2 : snS st = wrS st := by simp [snS, hb]
    rw [e1, e2]
    have HW := Lib.hid (refwr_is S q st w h hb)
    clear h hb e1 e2 hn
    go_enter Try.func27, Try.ntmps27
    go_wp2_with fail
    refine HW.out.mono ?_
    rintro e w1 ⟨rfl, hs1⟩
    replace hs1 := Lib.hid hs1
    go_wp2
    go_ret
    exact ⟨rfl, hs1.out⟩
  | true =>
    have e1 : snE st = 0 := by simp [snE, hb]
    have e2 : snS st = settle (wrS st) (wrS st).C.length := by simp [snS, hb, wrS_C]
    rw [e1, e2]
    have HW := Lib.hid (refwr_is S q st w h hb)
    have HN := Lib.hid (show (wrS st).N = (wrS st).C.foldl appC (wrS st).L by rw [wrS_N, wrS_C, wrS_L]; exact hn)
    clear h hb e1 e2 hn
    go_enter Try.func27, Try.ntmps27
    go_wp2_with fail
    refine HW.out.mono ?_
    rintro e w1 ⟨rfl, hs1⟩
    obtain ⟨S', g, hd, hbn⟩ := hs1.get
    obtain ⟨-, -, k2, k3, k4, -, -, kf⟩ := r7 hd.cell
    have kf3 := kf 3
    have kf4 := kf 4
    have HX := Lib.hid (hbn.rstep (refsettle hd HN.out))
    obtain ⟨na, nn, nc, hnv⟩ : ∃ a n c, g.nv = .slice a n c := by
      rcases hd.N.2 with ⟨e, _⟩ | ⟨_, _, _, e, _⟩
      · exact ⟨_, _, _, e⟩
      · exact ⟨_, _, _, e⟩
    rw [hnv] at k2 HX
    clear hs1 hd hbn hnv kf
    go_wp2
    go_ret
    exact ⟨rfl, HX.out⟩

/-! ### at -/
def atI (N : Nms) (k : Str) : Int := match N.findIdx? fun p => p.1 == k with | some j => (j : Int) | none => -1
theorem atI_hit {N : Nms} {k : Str} {j : Nat} {p : Str × Nat} (hj : N[j]? = some p) (hp : p.1 = k) (hm : ∀ (m : Nat) (p' : Str × Nat), m < j → N[m]? = some p' → p'.1 ≠ k) : atI N k = (j : Int) := by
  have e : (N.findIdx? fun p => p.1 == k) = some j := by
    obtain ⟨hl, hjp⟩ := List.getElem?_eq_some_iff.1 hj
    rw [List.findIdx?_eq_some_iff_getElem]
    refine ⟨hl, by rw [hjp]; simpa using hp, fun i hi => ?_⟩
    have := hm i _ hi (List.getElem?_eq_getElem (by omega))
    simpa using this
  unfold atI; rw [e]
theorem atI_miss {N : Nms} {k : Str} (hm : ∀ (m : Nat) (p' : Str × Nat), N[m]? = some p' → p'.1 ≠ k) : atI N k = -1 := by
  have e : (N.findIdx? fun p => p.1 == k) = none := by
    rw [List.findIdx?_eq_none_iff]
    intro p hp
    obtain ⟨i, hi, rfl⟩ := List.mem_iff_getElem.1 hp
    have := hm i _ (List.getElem?_eq_getElem hi)
    simpa using this
  unfold atI; rw [e]
theorem at_look {N : Nms} {k : Str} : (lookN N k = none ∧ atI N k = -1) ∨ ∃ (j : Nat) (i : Nat), lookN N k = some i ∧ N[j]? = some (k, i) ∧ atI N k = (j : Int) := by
  cases e : (N.findIdx? fun p => p.1 == k) with
  | none =>
    left
    have h := List.findIdx?_eq_none_iff.1 e
    refine ⟨look_none_of fun p hp => by simpa using h p hp, by unfold atI; rw [e]⟩
  | some j =>
    right
    obtain ⟨hl, h1, h2⟩ := List.findIdx?_eq_some_iff_getElem.1 e
    have hk : N[j].1 = k := by simpa using h1
    refine ⟨j, N[j].2, ?_, by rw [List.getElem?_eq_getElem hl, ← hk], by unfold atI; rw [e]⟩
    unfold lookN
    have : (N.find? fun p => p.1 == k) = some N[j] := by
      rw [List.find?_eq_some_iff_getElem]
      exact ⟨h1, j, hl, rfl, fun i hi => by simpa using h2 i hi⟩
    rw [this]; rfl

/-- The cells of a row of entries. -/
theorem e_cells {w : World} {base : Nat} {v : Value} {N : Nms} (h : w.ownsRow base 68 2 v N.length (N.flatMap eC)) :
    ∃ gb c a, v = .slice a N.length c ∧ N.length ≤ c ∧ c ≤ maxLen ∧ (N ≠ [] → a = some ⟨gb, 0, none⟩ ∧ gb < w.heap.size ∧ ∀ j p, N[j]? = some p → w.cell? ⟨gb, j * 2, none⟩ = some (sv p.1) ∧ w.cell? ⟨gb, j * 2 + 1, none⟩ = some (.int .i64 (p.2 : Int))) := by
  have hcells := fun g => h.cells (g := g)
  have hfl : ∀ (M : Nms) (j : Nat) (p : Str × Nat), M[j]? = some p → (M.flatMap eC)[j * 2]? = some (sv p.1) ∧ (M.flatMap eC)[j * 2 + 1]? = some (.int .i64 (p.2 : Int)) := by
    intro M
    induction M with
    | nil => intro j p hj; simp at hj
    | cons x r ih =>
      intro j p hj
      cases j with
      | zero => simp at hj; subst hj; exact ⟨rfl, rfl⟩
      | succ j =>
        have := ih j p (by simpa using hj)
        rw [show (j + 1) * 2 = j * 2 + 2 by omega, show j * 2 + 2 + 1 = (j * 2 + 1) + 2 by omega]
        exact this
  rcases h.2 with ⟨hv, h0⟩ | ⟨gb, cap, cur, hv, hb, hg, hnc, hcm, _⟩
  · exact ⟨0, 0, none, by rw [hv, h0], by omega, Nat.zero_le _, fun hn => absurd (List.eq_nil_of_length_eq_zero h0) hn⟩
  · refine ⟨gb, cap, _, hv, hnc, hcm, fun _ => ⟨rfl, lt_of_block hg, fun j p hj => ?_⟩⟩
    obtain ⟨h1, h2⟩ := hfl N j p hj
    have e : ∀ k, (⟨gb, 0, none⟩ : Addr).add k = ⟨gb, k, none⟩ := fun k => by unfold Addr.add; split <;> simp_all
    have a1 := hcells gb (by rw [hv]; rfl) _ _ h1
    have a2 := hcells gb (by rw [hv]; rfl) _ _ h2
    rw [e] at a1 a2
    exact ⟨a1, a2⟩

set_option maxHeartbeats 1600000 in
set_option maxRecDepth 100000 in
theorem at_any (N : Nms) (v : Value) (s : ByteArray) (w : World) (h : w.ownsRow 0 68 2 v N.length (N.flatMap eC)) :
    Calls Try.prog 32 #[v, .string s] w (Ans (.int .i64 (atI N s.data.toList)) w) := by
  obtain ⟨gb, c, a, rfl, h1, h2, h3⟩ := e_cells h
  unfold maxLen at h2
  obtain ⟨k, hk⟩ : ∃ k, k = s.data.toList := ⟨_, rfl⟩
  rw [← hk]
  have hks : s.toList = k := by rw [toList_is]; exact hk.symm
  have HK := Lib.hid hks
  have H3 := Lib.hid h3
  clear hk hks h3 h
  by_cases hn : N = []
  · have e : atI N k = -1 := by rw [hn]; rfl
    rw [e]
    have hl : N.length = 0 := by rw [hn]; rfl
    rw [hl]
    clear e hl hn h1 H3
    go_enter Try.func32, Try.ntmps32
    go_wp2
    refine wp_loop_rounds 1 ?_
    rw [rounds_succ]
    go_wp2
    go_ret
    exact ⟨rfl, rfl⟩
  · obtain ⟨rfl, hgl, hc⟩ := H3.out hn
    have HC := Lib.hid hc
    clear hc hgl
    go_enter Try.func32, Try.ntmps32
    go_wp2
    go_loop [5] (fun i => ∃ j : Nat, j ≤ N.length ∧ i = .int .i64 (j : Int) ∧ ∀ (m : Nat) (p' : Str × Nat), m < j → N[m]? = some p' → p'.1 ≠ k) (fun i => N.length - (intOf i).toNat)
    case atStart => exact ⟨0, Nat.zero_le _, rfl, fun m p' hm => absurd hm (Nat.not_lt_zero _)⟩
    case round =>
      obtain ⟨j, hj, rfl, hm⟩ := hrel
      have HM := Lib.hid hm
      clear hm
      by_cases hlt : j < N.length
      · obtain ⟨p, hp⟩ : ∃ p, N[j]? = some p := ⟨_, List.getElem?_eq_getElem hlt⟩
        obtain ⟨hc1, hc2⟩ := HC.out j p hp
        obtain ⟨xs, hxs⟩ : ∃ xs : ByteArray, xs = ⟨p.1.toArray⟩ := ⟨_, rfl⟩
        have hxl : xs.toList = p.1 := by rw [toList_is, hxs]
        have HX := Lib.hid hxl
        have HP := Lib.hid hp
        unfold sv at hc1
        rw [← hxs] at hc1
        clear hxs hxl hp hc2
        go_wp2
        · rename_i hc _
          have e : p.1 = k := by rw [← HX.out, ← HK.out]; simpa using hc
          have e2 := atI_hit HP.out e HM.out
          rw [e2]
          go_ret
          exact ⟨rfl, rfl⟩
        · rename_i hc
          have e : p.1 ≠ k := by rw [← HX.out, ← HK.out]; simpa using hc
          refine ⟨⟨j + 1, by omega, by push_cast; rfl, fun m p' hm hp' => ?_⟩, ?_⟩
          · rcases Nat.lt_succ_iff_lt_or_eq.1 hm with h | rfl
            · exact HM.out m p' h hp'
            · have : p' = p := by have := HP.out; rw [hp'] at this; exact Option.some.inj this
              rw [this]; exact e
          · simp only [intOf]; omega
      · have : j = N.length := by omega
        subst this
        have e : atI N k = -1 := atI_miss fun m p' hp' => HM.out m p' (List.getElem?_eq_some_iff.1 hp').1 hp'
        rw [e]
        go_wp2
        go_ret
        exact ⟨rfl, rfl⟩
end Dsk
end Go.Proofs.Ytiadjjdmhpabnaa
