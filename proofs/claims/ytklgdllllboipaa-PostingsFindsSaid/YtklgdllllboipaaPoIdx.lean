/- An index as it is asked (layer 14): once.Do of makeLists, rowsOf, Of, all. -/
import Derived.Test.YtklgdllllboipaaPoMk
set_option maxRecDepth 100000
namespace Go.Proofs.Ytklgdllllboipaa
open Go.RowKit Go.Sort
namespace Po
open Bit Dsk Ob Dig
set_option linter.unusedVariables false
set_option linter.unusedSimpArgs false
/-- The lists are made. -/
def Told (w : World) (p : Nat) (u : Value) (rs : List (List Lb.Pr)) : Prop := ∃ b f, p < b ∧ IxB p u 1 0 (.map (some b)) w ∧ MapP w b f ∧ ∀ q, IMine w ((f q).getD nilS) (sel (has rs q) rs.length) ∧ ∀ g, ((f q).getD nilS).ownBlock = some g → p < g
/-- An index of the rows, at block p. -/
def Idx (w : World) (p : Nat) (u : Value) (rs : List (List Lb.Pr)) : Prop := PView w (fun b => p < b) u rs ∧ (IxB p u 0 0 (.map none) w ∨ Told w p u rs)
/-- What is asked of the rows: not many, and no string is longer than any. -/
structure Few (rs : List (List Lb.Pr)) : Prop where
  rows : rs.length ≤ 1000
  row : ∀ r ∈ rs, r.length ≤ 1000
  sz : ∀ r ∈ rs, ∀ q ∈ r, Sz q
theorem Told.new {w w' : World} {p : Nat} {u : Value} {rs : List (List Lb.Pr)} (h : Told w p u rs) (hu : New0 w w') : Told w' p u rs := by
  obtain ⟨b, f, h1, h2, h3, h4⟩ := h
  exact ⟨b, f, h1, h2.new hu, h3.kept (hu.block b h3.lt (fun f => f)), fun q => ⟨(h4 q).1.new hu, (h4 q).2⟩⟩
theorem Idx.new {w w' : World} {p : Nat} {u : Value} {rs : List (List Lb.Pr)} (h : Idx w p u rs) (hu : New0 w w') : Idx w' p u rs := by
  obtain ⟨h1, h2⟩ := h
  exact ⟨Rw.DView.new h1 hu, h2.imp (fun k => k.new hu) (fun k => k.new hu)⟩
theorem Idx.lt {w : World} {p : Nat} {u : Value} {rs : List (List Lb.Pr)} (h : Idx w p u rs) : p < w.heap.size := by
  obtain ⟨-, h2 | ⟨b, f, -, h2, -⟩⟩ := h
  · exact h2.lt
  · exact h2.lt
theorem NewE.idx {w w' : World} {rs : List (List Lb.Pr)} {e : Ending} (h : NewE w rs e w') : ∃ p u, e = .returned (.pointer (some ⟨p, 0, none⟩)) ∧ w.heap.size ≤ p ∧ Idx w' p u rs ∧ New0 w w' := by
  obtain ⟨p, u, ss, h1, h2, h3, h4, h5⟩ := h
  exact ⟨p, u, h1, h2, ⟨h4.view, .inl h3⟩, h5⟩
theorem do_any (w : World) (p : Nat) (u : Value) (rs : List (List Lb.Pr)) (hV : PView w (fun b => p < b) u rs) (h : IxB p u 0 0 (.map none) w ∨ Told w p u rs) (hF : Few rs) :
    Calls Try.prog 39 #[.pointer (some ⟨p, 1, none⟩), .func (.func 40) #[.pointer (some ⟨p, 0, none⟩)] #[]] w fun e w' => e = .returned (.tuple #[]) ∧ Told w' p u rs ∧ Upon (fun k => k = p) w w' := by
  rcases h with h | h
  · have hX1 := h.set2 1
    have hu1 := setP w p 2 (.int .i32 1)
    refine (do_first p 40 u (.map none) w (fun w' => MkE (w.setCell ⟨p, 2, none⟩ (.int .i32 1)) p u rs w') h (fun args w => by kernel_rfl)
      (mk_any _ p u rs hX1 (Rw.DView.upon hV hu1 (fun b h1 h2 => by omega)) hF.rows hF.row hF.sz) (fun w' ⟨b, f, k1, k2⟩ => ⟨_, _, k2.box⟩)).mono fun e w' ⟨e1, wm, ⟨b, f, k1, k2⟩, e2⟩ => ?_
    have hb : p < b := by have := hX1.lt; omega
    have q1 : Upon (fun k => k = p) wm w' := by rw [e2]; exact (((Upon.refl _ wm).drew).trans (setP _ p 1 _)).trans (setP _ p 2 _)
    refine ⟨e1, ⟨b, f, hb, ?_, k2.map.kept (q1.block b k2.map.lt (fun e => by omega)), fun q => ?_⟩, (hu1.trans k2.up).trans q1⟩
    · rw [e2]
      exact ((show IxB p u 0 1 (.map (some b)) wm.drew from k2.box).set1 1).set2 0
    · exact ⟨(k2.lst.mine q).upon q1 (fun g hg e => by have := k2.lst.base q g hg; omega), fun g hg => by have := k2.lst.base q g hg; omega⟩
  · obtain ⟨b, f, h1, h2, h3, h4⟩ := h
    exact (do_done p u _ 0 _ w h2).mono fun e w' ⟨e1, e2⟩ => ⟨e1, by rw [e2]; exact ⟨b, f, h1, h2, h3, h4⟩, by rw [e2]; exact Upon.refl _ _⟩
/-- What an index answers: a list out of blocks younger than p; nothing old is touched but p. -/
def AskE (w : World) (p : Nat) (u : Value) (rs : List (List Lb.Pr)) (l : List Int) (e : Ending) (w' : World) : Prop := ∃ v, e = .returned v ∧ IView w' (fun b => p < b) v l ∧ Idx w' p u rs ∧ Upon (fun k => k = p) w w'
/-- .. rowsOf: one of the index's own lists. -/
def RowE (w : World) (p : Nat) (u : Value) (rs : List (List Lb.Pr)) (l : List Int) (e : Ending) (w' : World) : Prop := ∃ v, e = .returned v ∧ IMine w' v l ∧ (∀ g, v.ownBlock = some g → p < g) ∧ Idx w' p u rs ∧ Upon (fun k => k = p) w w'
theorem IMine.younger {w : World} {p : Nat} {v : Value} {l : List Int} (h : IMine w v l) (hb : ∀ g, v.ownBlock = some g → p < g) : IView w (fun b => p < b) v l := Rw.View.mono h.view fun b _ k => hb b k
set_option maxHeartbeats 3200000 in
theorem rowsOf_any (w : World) (p : Nat) (u : Value) (rs : List (List Lb.Pr)) (q : Lb.Pr) (h : Idx w p u rs) (hF : Few rs) (hq : Sz q) :
    Calls Try.prog 28 #[.pointer (some ⟨p, 0, none⟩), prV q] w (RowE w p u rs (sel (has rs q) rs.length)) := by
  obtain ⟨s1, s2⟩ := q
  have uA := (Upon.refl (fun _ => False) w).alloc (.cells #[.string s1, .string s2] 28 (0, 0))
  have cA := cell_new w (.cells #[.string s1, .string s2] 28 (0, 0))
  have hlt := h.lt
  have hclt : w.heap.size < (w.alloc (.cells #[.string s1, .string s2] 28 (0, 0))).heap.size := by simp
  obtain ⟨hV, hS⟩ := h.new uA
  have HD := Lib.hid (do_any _ p u rs hV hS hF)
  have hend : Hid (∀ w' : World, Upon (fun k => k = p) (w.alloc (.cells #[.string s1, .string s2] 28 (0, 0))) w' → Told w' p u rs → ∀ v, IMine w' v (sel (has rs (s1, s2)) rs.length) → (∀ g, v.ownBlock = some g → p < g) → RowE w p u rs (sel (has rs (s1, s2)) rs.length) (.returned v) w') := Lib.hid fun w' hu hT v hv hb =>
    ⟨v, rfl, hv, hb, ⟨Rw.DView.upon hV hu (fun b h1 h2 => by omega), .inr hT⟩, (uA.mono fun _ _ f => f.elim).trans hu⟩
  unfold prV
  simp only
  clear h hV hS uA
  obtain ⟨wA, hwA⟩ : ∃ x, w.alloc (.cells #[.string s1, .string s2] 28 (0, 0)) = x := ⟨_, rfl⟩
  rw [hwA] at cA hclt HD hend
  replace hwA := Lib.hid hwA
  go_enter Try.func28, Try.ntmps28
  go_wp2_with fail
  rw [hwA.out]
  refine HD.out.mono ?_
  rintro e w2 ⟨rfl, hT, hu2⟩
  obtain ⟨b, f, k1, k2, k3, k4⟩ := hT
  have c2 := (hu2.block w.heap.size hclt (fun e => by omega)).trans cA
  have hS0 := Lib.hid (fun W' (hu : New0 w2 W') => (show W'.cell? ⟨p, 4, none⟩ = some (.map (some b)) ∧ W'.cell? ⟨w.heap.size, 0, none⟩ = some (.string s1) ∧ W'.cell? ⟨w.heap.size, 1, none⟩ = some (.string s2) from
    ⟨(k2.new hu).cells.2.2.2, Lb.New0.cells hu (by rw [World.cell?, c2]; rfl), Lb.New0.cells hu (by rw [World.cell?, c2]; rfl)⟩))
  have hTD : Told w2.drew p u rs := Told.new ⟨b, f, k1, k2, k3, k4⟩ ((Upon.refl _ w2).drew)
  have hlk := (k3.kept (rfl : w2.drew.heap[b]? = w2.heap[b]?)).look hq
  have hvD := (k4 (s1, s2)).1.new ((Upon.refl _ w2).drew)
  have hE := Lib.hid (hend.out w2.drew hu2.drew hTD _ hvD (k4 (s1, s2)).2)
  obtain ⟨lv, hlv⟩ : ∃ v, (f (s1, s2)).getD nilS = v := ⟨_, rfl⟩
  rw [show (f (s1, s2)).getD (.slice none 0 0) = lv from hlv] at hlk
  rw [hlv] at hE
  clear hend hTD hvD HD k1 k2 k3 k4 hlv c2 cA
  go_wp2_with fail
  refine HeldS.wp_region_S 6 (S := fun w' => w'.cell? ⟨p, 4, none⟩ = some (.map (some b)) ∧ w'.cell? ⟨w.heap.size, 0, none⟩ = some (.string s1) ∧ w'.cell? ⟨w.heap.size, 1, none⟩ = some (.string s2)) (by kernel_rfl) (hS0.out _ ((Upon.refl _ w2).drew)) (fun hHeld => ?_)
  refine HeldS.wpAnyS_take (i := 0) [5, 3, 2, 1] (oi := _) (v := ?_) rfl (by kernel_rfl) (by kernel_rfl) (by kernel_rfl) (by kernel_rfl) (by kernel_rfl) (fun _ _ _ h => h) (Or.inl ⟨by rfl, ?_⟩) (by assumption) ?_
  rotate_left
  · (intro w hSw; (try dsimp only at hSw); go_simp; (try with_reducible rfl))
  (try simp only [Act.put, List.setIfInBounds_toArray, List.set_cons_zero, List.set_cons_succ])
  refine HeldS.wpAnyS_take (i := 1) [5, 3, 2] (oi := _) (v := ?_) rfl (by kernel_rfl) (by kernel_rfl) (by kernel_rfl) (by kernel_rfl) (by kernel_rfl) (fun _ _ _ h => h) (Or.inl ⟨by rfl, ?_⟩) (by assumption) ?_
  rotate_left
  · (intro w hSw; (try dsimp only at hSw); go_simp; (try with_reducible rfl))
  (try simp only [Act.put, List.setIfInBounds_toArray, List.set_cons_zero, List.set_cons_succ])
  refine HeldS.wpAnyS_take (i := 2) [5, 3] (oi := _) (v := ?_) rfl (by kernel_rfl) (by kernel_rfl) (by kernel_rfl) (by kernel_rfl) (by kernel_rfl) (fun _ _ _ h => h) (Or.inl ⟨by rfl, ?_⟩) (by assumption) ?_
  rotate_left
  · (intro w hSw; (try dsimp only at hSw); go_simp; (try with_reducible rfl))
  (try simp only [Act.put, List.setIfInBounds_toArray, List.set_cons_zero, List.set_cons_succ])
  refine HeldS.wpAnyS_take (i := 3) [5] (oi := _) (v := ?_) rfl (by kernel_rfl) (by kernel_rfl) (by kernel_rfl) (by kernel_rfl) (by kernel_rfl) (fun _ _ _ h => h) (Or.inl ⟨by rfl, ?_⟩) (by assumption) ?_
  rotate_left
  · (intro w hSw; (try dsimp only at hSw); go_simp; (try with_reducible rfl))
  (try simp only [Act.put, List.setIfInBounds_toArray, List.set_cons_zero, List.set_cons_succ])
  refine HeldS.wpAnyS_take (i := 4) [5] (oi := _) (v := ?_) rfl (by kernel_rfl) (by kernel_rfl) (by kernel_rfl) (by kernel_rfl) (by kernel_rfl) (fun _ _ _ h => h) (Or.inl ⟨by rfl, ?_⟩) (by assumption) ?_
  rotate_left
  · (intro w hSw; (try dsimp only at hSw); go_simp; (try with_reducible rfl))
  (try simp only [Act.put, List.setIfInBounds_toArray, List.set_cons_zero, List.set_cons_succ])
  refine HeldS.wpAnyS_ready (rs := [5]) (by kernel_rfl) (by simp) ?_
  refine HeldS.AllS.cons (o := ⟨some 16, _, _, _, _, _⟩) rfl (fun K hK => ?_) HeldS.AllS.nil
  refine step_look (o := ⟨some 16, _, _, _, _, _⟩) (by rfl) _ _ _ (by rfl) (.map (some b)) (prV (s1, s2)) lv (by rfl) (by rfl) hlk ?_
  refine hK.out _ _ (hS0.out _ ((Upon.refl _ w2).drew)) (fun hHeld => ?_)
  clear hK K
  (try simp only [Act.put, List.setIfInBounds_toArray, List.set_cons_zero, List.set_cons_succ])
  refine HeldS.wpAnyS_ready (rs := [6]) (by kernel_rfl) (by simp) ?_
  refine HeldS.AllS.last (s := 6) (o := ⟨some 4, _, _, _, _, _⟩) rfl (fun K hK => ?_) HeldS.AllS.nil
  go_simp
  refine hK.out _ _ ?_
  clear hK K hHeld
  (try simp only [Act.put, List.setIfInBounds_toArray, List.set_cons_zero, List.set_cons_succ])
  refine HeldS.wpAnyS_done (by kernel_rfl) ?_ _
  go_wp2_with fail
  go_ret
  exact hE.out
set_option maxHeartbeats 1600000 in
theorem of_any (w : World) (p : Nat) (u : Value) (rs : List (List Lb.Pr)) (q : Lb.Pr) (h : Idx w p u rs) (hF : Few rs) (hq : Sz q) :
    Calls Try.prog 16 #[.pointer (some ⟨p, 0, none⟩), prV q] w (AskE w p u rs (sel (has rs q) rs.length)) := by
  have hlt := h.lt
  have hlen : (sel (has rs q) rs.length).length ≤ 1000000 := Nat.le_trans (sel_len _ _) (by have := hF.rows; omega)
  obtain ⟨s1, s2⟩ := q
  have uA := (Upon.refl (fun _ => False) w).alloc (.cells #[.string s1, .string s2] 28 (0, 0))
  have cA := cell_new w (.cells #[.string s1, .string s2] 28 (0, 0))
  have y0 : (w.alloc (.cells #[.string s1, .string s2] 28 (0, 0))).cell? ⟨w.heap.size, 0, none⟩ = some (.string s1) := by rw [World.cell?, cA]; rfl
  have y1 : (w.alloc (.cells #[.string s1, .string s2] 28 (0, 0))).cell? ⟨w.heap.size, 1, none⟩ = some (.string s2) := by rw [World.cell?, cA]; rfl
  have HR := Lib.hid (rowsOf_any _ p u rs (s1, s2) (h.new uA) hF hq)
  replace uA := Lib.hid uA
  unfold prV at HR ⊢
  simp only at HR ⊢
  obtain ⟨l, hl⟩ : ∃ l, sel (has rs (s1, s2)) rs.length = l := ⟨_, rfl⟩
  rw [hl] at HR hlen ⊢
  clear hl h cA
  go_enter Try.func16, Try.ntmps16
  go_wp2_with fail
  refine HR.out.mono ?_
  rintro e w2 ⟨v, rfl, hv0, hb0, hI, hu2⟩
  have hv := hv0.younger hb0
  have HC := Lib.hid (clone_any w2 _ v l hv hlen)
  have hu3 := Lib.hid ((uA.out.mono (fun _ _ f => f.elim) : Upon (fun k => k = p) w _).trans hu2)
  have hlt2 := hI.lt
  replace hI := Lib.hid hI
  clear HR hv hv0 hb0 hu2 uA y0 y1
  go_wp2_with fail
  refine HC.out.mono ?_
  rintro e w3 ⟨v3, rfl, hm, ho, hn⟩
  have hE : Hid (AskE w p u rs l (.returned v3) w3) := Lib.hid ⟨v3, rfl, Rw.View.mono hm.view (fun b _ hb => by have := ho b hb; omega), hI.out.new hn, hu3.out.trans (hn.mono fun _ _ f => f.elim)⟩
  clear HC hm ho hn hI hu3
  go_wp2_with fail
  go_ret
  exact hE.out
set_option maxHeartbeats 1600000 in
theorem all_any (w : World) (p : Nat) (u : Value) (rs : List (List Lb.Pr)) (h : Idx w p u rs) (hF : Few rs) :
    Calls Try.prog 42 #[.pointer (some ⟨p, 0, none⟩)] w fun e w' => ∃ v, e = .returned v ∧ OwnI w w' v (sel (fun _ => true) rs.length) := by
  have hn := hF.rows
  have x0 : ∃ A c, w.cell? ⟨p, 0, none⟩ = some (.slice A rs.length c) := by
    obtain ⟨hV, hS⟩ := h
    obtain ⟨A, c, rfl, -, -⟩ := Rw.DView.shape hV
    rcases hS with hS | ⟨b, f, -, hS, -⟩
    · exact ⟨A, c, hS.cells.1⟩
    · exact ⟨A, c, hS.cells.1⟩
  obtain ⟨A, c, x0⟩ := x0
  clear h hF
  obtain ⟨n, hnn⟩ : ∃ n, rs.length = n := ⟨_, rfl⟩
  rw [hnn] at x0 hn ⊢
  clear hnn
  go_enter Try.func42, Try.ntmps42
  go_wp2_with fail
  go_loopw [3, 10] (fun uv ov wr => ∃ (j : Nat), ov = .int .i64 (j : Int) ∧ j ≤ n ∧ Hid (OwnI w wr uv (sel (fun _ => true) j))) (fun _ ov _ => n - (intOf ov).toNat)
  case atStart => exact ⟨0, rfl, Nat.zero_le _, Lib.hid (OwnI.none w)⟩
  case round =>
    obtain ⟨j, rfl, hj, hg⟩ := hrel
    by_cases hlt : j < n
    · have hlen : Hid ((sel (fun _ => true) j).length ≤ j) := Lib.hid (sel_len _ _)
      have hst : Hid (sel (fun _ => true) (j + 1) = sel (fun _ => true) j ++ [(j : Int)]) := Lib.hid (sel_yes rfl)
      obtain ⟨l, hl⟩ : ∃ l, sel (fun _ => true) j = l := ⟨_, rfl⟩
      rw [hl] at hg hlen hst
      obtain ⟨A5, c5, hv5, -, -⟩ := Rw.View.shape hg.out.mine.view
      subst hv5
      have hX := Lib.hid (view_one wr (j : Int))
      have hM := Lib.hid (hg.out.step ((Upon.refl _ wr).alloc (.cells #[.int .i64 (j : Int)] 3 (0, 0))))
      clear hl hg x0
      go_wp2_with (at_builtin; refine Rw.wpList_append typI rfl _ _ rfl _ _ l [(j : Int)] All rfl rfl hM.out.mine hX.out (by have := hlen.out; rw [List.length_singleton]; omega) (by have := hlen.out; rw [List.length_singleton]; omega) ?_)
      intro v' w5 hown hgr hbl
      have hG := Lib.hid (hM.out.app hown hgr (hbl.imp id fun h => h.trans (by simp)))
      rw [← hst.out] at hG
      clear hown hgr hbl hM hX hst hlen
      obtain ⟨A6, c6, hv6, -, -⟩ := Rw.View.shape hG.out.mine.view
      subst hv6
      go_wp2_with fail
      go_roundw
      case rel => exact ⟨j + 1, by go_num, hlt, hG⟩
      case measure => simp [intOf]; omega
    · obtain rfl : j = n := by omega
      obtain ⟨A6, c6, hv6, -, -⟩ := Rw.View.shape hg.out.mine.view
      subst hv6
      have hE : Hid (∃ v, Ending.returned (.slice A6 (sel (fun _ => true) j).length c6) = .returned v ∧ OwnI w wr v (sel (fun _ => true) j)) := Lib.hid ⟨_, rfl, hg.out⟩
      clear hg x0
      go_wp2_with fail
      go_ret
      exact hE.out
end Po
end Go.Proofs.Ytklgdllllboipaa
