/- Parts, put together: HdPut, HdPut2. -/
import Derived.Test.YtfheehlfodoimaaGreatPHd1
import Derived.Deep.RegionHeld3
import Derived.Deep.RegionLaw

/- The document's head (layer 13): put. -/
section
set_option maxRecDepth 100000
namespace Go.Proofs.YtfheehlfodoimaaGreat
open Go.RowKit Go.Sort
namespace Hd
open Bit Dsk Ob Dig
set_option linter.unusedVariables false

/-- What put leaves, when the sample is not too old. -/
structure PutE (w w' : World) (A R : Nat → Prop) (p : Nat) (h : H) : Prop where
  obj : ∃ A' R' u' rs', HeadR w' A' R' p u' rs' h ∧ (∀ b, A b → A' b) ∧ (∀ b, A' b → A b ∨ w.heap.size ≤ b) ∧ ∀ b, R' b → R b ∨ w.heap.size ≤ b
  upon : Upon A w w'
/-- A row's points are put in another place: the row's cell is written. -/
theorem RowsR.setPts {w w' : World} {A A' R : Nat → Prop} {rs : List RR} {h : H} (hh : RowsR w A R rs h) {i : Nat} (hi : i < h.length) {t : Rw.Sl} {m : List Pt}
    (hlab : ∀ k (k1 : k < rs.length) (k2 : k < h.length), Lb.View w' R rs[k].lab.v h[k].lab) (hpts : ∀ k (k1 : k < rs.length) (k2 : k < h.length), k ≠ i → PMine w' rs[k].pts.v h[k].pts)
    (hA : ∀ k (k1 : k < rs.length) b, k ≠ i → rs[k].pts.v.ownBlock = some b → A' b) (hm : PMine w' t.v m) (hAt : ∀ b, t.v.ownBlock = some b → A' b) (hne : ∀ b, t.v.ownBlock = some b → ∀ k (k1 : k < rs.length), k ≠ i → rs[k].pts.v.ownBlock ≠ some b) :
    ∀ hr : i < rs.length, RowsR w' A' R (rs.set i ⟨rs[i].lab, t, rs[i].last⟩) (h.set i ⟨h[i].lab, m, h[i].last⟩) := fun hr => by
  have hl := hh.len
  refine ⟨by simp [hl], fun k k1 k2 => ?_, fun k k1 k2 => ?_, fun k k1 k2 => ?_, fun k k1 b hb => ?_, fun a c k1 k2 b hac hb he => ?_⟩
  · have k1' : k < rs.length := by simpa using k1
    have k2' : k < h.length := by simpa using k2
    by_cases e : k = i
    · subst e; simp only [List.getElem_set_self]; exact hlab k k1' k2'
    · rw [List.getElem_set_ne (fun e2 => e e2.symm), List.getElem_set_ne (fun e2 => e e2.symm)]; exact hlab k k1' k2'
  · have k1' : k < rs.length := by simpa using k1
    have k2' : k < h.length := by simpa using k2
    by_cases e : k = i
    · subst e; simp only [List.getElem_set_self]; exact hm
    · rw [List.getElem_set_ne (fun e2 => e e2.symm), List.getElem_set_ne (fun e2 => e e2.symm)]; exact hpts k k1' k2' e
  · have k1' : k < rs.length := by simpa using k1
    have k2' : k < h.length := by simpa using k2
    by_cases e : k = i
    · subst e; simp only [List.getElem_set_self]; exact hh.last k k1' k2'
    · rw [List.getElem_set_ne (fun e2 => e e2.symm), List.getElem_set_ne (fun e2 => e e2.symm)]; exact hh.last k k1' k2'
  · have k1' : k < rs.length := by simpa using k1
    by_cases e : k = i
    · subst e; simp only [List.getElem_set_self] at hb; exact hAt b hb
    · rw [List.getElem_set_ne (fun e2 => e e2.symm)] at hb; exact hA k k1' b e hb
  · have k1' : a < rs.length := by simpa using k1
    have k2' : c < rs.length := by simpa using k2
    by_cases ea : a = i
    · subst ea
      simp only [List.getElem_set_self] at hb
      rw [List.getElem_set_ne hac] at he
      exact hne b hb c k2' (fun e => hac e.symm) he
    · rw [List.getElem_set_ne (fun e2 => ea e2.symm)] at hb
      by_cases ec : c = i
      · subst ec
        simp only [List.getElem_set_self] at he
        exact hne b he a k1' ea hb
      · rw [List.getElem_set_ne (fun e2 => ec e2.symm)] at he
        exact hh.apart a c k1' k2' b hac hb he
theorem RowsR.setLast {w : World} {A R : Nat → Prop} {rs : List RR} {h : H} (hh : RowsR w A R rs h) {i : Nat} (hi : i < h.length) (t : Int) : ∀ hr : i < rs.length, RowsR w A R (rs.set i ⟨rs[i].lab, rs[i].pts, t⟩) (h.set i ⟨h[i].lab, h[i].pts, t⟩) := fun hr => by
  have hl := hh.len
  refine ⟨by simp [hl], fun k k1 k2 => ?_, fun k k1 k2 => ?_, fun k k1 k2 => ?_, fun k k1 b hb => ?_, fun a c k1 k2 b hac hb he => ?_⟩
  · have k1' : k < rs.length := by simpa using k1
    have k2' : k < h.length := by simpa using k2
    by_cases e : k = i
    · subst e; simp only [List.getElem_set_self]; exact hh.lab k k1' k2'
    · rw [List.getElem_set_ne (fun e2 => e e2.symm), List.getElem_set_ne (fun e2 => e e2.symm)]; exact hh.lab k k1' k2'
  · have k1' : k < rs.length := by simpa using k1
    have k2' : k < h.length := by simpa using k2
    by_cases e : k = i
    · subst e; simp only [List.getElem_set_self]; exact hh.pts k k1' k2'
    · rw [List.getElem_set_ne (fun e2 => e e2.symm), List.getElem_set_ne (fun e2 => e e2.symm)]; exact hh.pts k k1' k2'
  · have k1' : k < rs.length := by simpa using k1
    have k2' : k < h.length := by simpa using k2
    by_cases e : k = i
    · subst e; simp only [List.getElem_set_self]
    · rw [List.getElem_set_ne (fun e2 => e e2.symm), List.getElem_set_ne (fun e2 => e e2.symm)]; exact hh.last k k1' k2'
  · have k1' : k < rs.length := by simpa using k1
    by_cases e : k = i
    · subst e; simp only [List.getElem_set_self] at hb; exact hh.own k k1' b hb
    · rw [List.getElem_set_ne (fun e2 => e e2.symm)] at hb; exact hh.own k k1' b hb
  · have k1' : a < rs.length := by simpa using k1
    have k2' : c < rs.length := by simpa using k2
    have g : ∀ k (k1 : k < rs.length) b, ((rs.set i ⟨rs[i].lab, rs[i].pts, t⟩)[k]'(by simpa using k1)).pts.v.ownBlock = some b → rs[k].pts.v.ownBlock = some b := fun k k1 b hb => by
      by_cases e : k = i
      · subst e; simpa only [List.getElem_set_self] using hb
      · rwa [List.getElem_set_ne (fun e2 => e e2.symm)] at hb
    exact hh.apart a c k1' k2' b hac (g a k1' b hb) (g c k2' b he)
theorem typ_ne {w : World} {T T' : TypeId} (hT : T ≠ T') {g g' : Nat} {cs cs' : Array Value} (h1 : w.heap[g]? = some (.cells cs T (0, 0))) (h2 : w.heap[g']? = some (.cells cs' T' (0, 0))) : g ≠ g' := fun e => by
  subst e
  rw [h1] at h2
  injection h2 with h2
  injection h2 with _ h2 _
  exact hT h2
theorem ne_HP : (30 : TypeId) ≠ 81 := by decide
theorem ne_RP : (59 : TypeId) ≠ 81 := by decide
theorem ne_HR : (30 : TypeId) ≠ 59 := by decide
set_option maxHeartbeats 1600000 in
/-- A point more in row i, and its time. -/
theorem HeadR.grow {w W x : World} {A R : Nat → Prop} {p : Nat} {u : Rw.Sl} {rs : List RR} {h : H} (hh : HeadR w A R p u rs h) (hW : New0 w W) {i : Nat} (hi : i < h.length) {gb c : Nat} (hu : u = ⟨some ⟨gb, 0, none⟩, h.length, c⟩) (hr : i < rs.length) {t' : Rw.Sl} {pt : Pt}
    (hm : PMine x t'.v (h[i].pts ++ [pt])) (hg : W.grownBy x rs[i].pts.v.ownBlock) (hb : t'.v.ownBlock = rs[i].pts.v.ownBlock ∨ t'.v.ownBlock = some W.heap.size) (t : Int) :
    ∃ A' rs', HeadR ((x.setCell ⟨gb, i * 3 + 1, none⟩ t'.v).setCell ⟨gb, i * 3 + 2, none⟩ (.int .i64 t)) A' R p u rs' (h.set i ⟨h[i].lab, h[i].pts ++ [pt], t⟩) ∧ (∀ b, A b → A' b) ∧ (∀ b, A' b → A b ∨ w.heap.size ≤ b) ∧ Upon A w ((x.setCell ⟨gb, i * 3 + 1, none⟩ t'.v).setCell ⟨gb, i * 3 + 2, none⟩ (.int .i64 t)) := by
  have hlr := hh.rows.len
  have hux : Upon (fun b => rs[i].pts.v.ownBlock = some b) w x := Upon.grown (hW.mono fun _ _ f => f.elim) hg (fun k hk => .inl hk)
  have hrow := hh.row
  have huv : u.v = .slice (some ⟨gb, 0, none⟩) h.length c := by rw [hu]
  rw [huv] at hrow
  obtain ⟨csr, hgb⟩ := hrow.typ (g := gb) rfl
  have hgbA : A gb := hh.uA gb (by rw [huv]; rfl)
  have hpt : ∀ b, rs[i].pts.v.ownBlock = some b → ∃ cs, w.heap[b]? = some (.cells cs 81 (0, 0)) := fun b hb => (hh.rows.pts i hr hi).typ hb
  have hgbP : ¬ rs[i].pts.v.ownBlock = some gb := fun e => by obtain ⟨cs, h2⟩ := hpt gb e; exact typ_ne ne_RP hgb h2 rfl
  have hpP : ¬ rs[i].pts.v.ownBlock = some p := fun e => by obtain ⟨cs, h2⟩ := hpt p e; exact typ_ne ne_HP hh.box h2 rfl
  have hpg : p ≠ gb := typ_ne ne_HR hh.box hgb
  -- at x
  have hboxx : x.heap[p]? = some (.cells #[u.v] 30 (0, 0)) := (hux.block p (Array.getElem?_eq_some_iff.1 hh.box).1 hpP).trans hh.box
  have hrowx : RMine x (.slice (some ⟨gb, 0, none⟩) h.length c) rs := Rw.Mine.upon hrow hux fun b hb e => hgbP (by
    have : gb = b := by simpa [Value.ownBlock] using hb
    subst this; exact e)
  obtain ⟨csx, hgbx⟩ := hrowx.typ (g := gb) rfl
  have hplt : ∀ b, t'.v.ownBlock = some b → (rs[i].pts.v.ownBlock = some b ∧ A b) ∨ (w.heap.size ≤ b ∧ b = W.heap.size) := fun b hb2 => by
    rcases hb with hb | hb
    · rw [hb] at hb2; exact .inl ⟨hb2, hh.rows.own i hr b hb2⟩
    · rw [hb] at hb2
      injection hb2 with hb2
      exact .inr ⟨by rw [← hb2]; exact hW.size, hb2.symm⟩
  have hne : ∀ b, t'.v.ownBlock = some b → ∀ k (k1 : k < rs.length), k ≠ i → rs[k].pts.v.ownBlock ≠ some b := fun b hb2 k k1 hk e => by
    rcases hplt b hb2 with ⟨h1, -⟩ | ⟨h1, -⟩
    · exact hh.rows.apart i k hr k1 b (fun e => hk e.symm) h1 e
    · have := Rw.Mine.lt (hh.rows.pts k k1 (by omega)) e; omega
  have hrx := hh.rows.setPts hi (w' := x) (A' := fun b => A b ∨ t'.v.ownBlock = some b) (R := R) (t := t') (m := h[i].pts ++ [pt])
    (fun k k1 k2 => Rw.View.upon (hh.rows.lab k k1 k2) hux (fun b hb e => hh.dis b (hh.rows.own i hr b e) hb))
    (fun k k1 k2 hk => Rw.Mine.upon (hh.rows.pts k k1 k2) hux (fun b hb e => hh.rows.apart i k hr k1 b (fun e => hk e.symm) e hb))
    (fun k k1 b hk hb => .inl (hh.rows.own k k1 b hb)) hm (fun b hb => .inr hb) hne hr
  -- the two cells
  have hu1 : Upon (fun b => b = gb) x (x.setCell ⟨gb, i * 3 + 1, none⟩ t'.v) := Upon.setCell (S := fun b => b = gb) (p := ⟨gb, i * 3 + 1, none⟩) (Upon.refl _ x) (.inl rfl) _
  have hu2 : Upon (fun b => b = gb) x ((x.setCell ⟨gb, i * 3 + 1, none⟩ t'.v).setCell ⟨gb, i * 3 + 2, none⟩ (.int .i64 t)) := Upon.setCell (S := fun b => b = gb) (p := ⟨gb, i * 3 + 2, none⟩) hu1 (.inl rfl) _
  have hr1 : RMine (x.setCell ⟨gb, i * 3 + 1, none⟩ t'.v) (.slice (some ⟨gb, 0, none⟩) h.length c) (rs.set i ⟨rs[i].lab, t', rs[i].last⟩) := Rw.Mine.set hrowx hlr.symm hr (t := 1) (by decide) rfl
  have hlen1 : (rs.set i ⟨rs[i].lab, t', rs[i].last⟩).length = rs.length := by simp
  have hr2 : RMine ((x.setCell ⟨gb, i * 3 + 1, none⟩ t'.v).setCell ⟨gb, i * 3 + 2, none⟩ (.int .i64 t)) (.slice (some ⟨gb, 0, none⟩) h.length c) ((rs.set i ⟨rs[i].lab, t', rs[i].last⟩).set i ⟨rs[i].lab, t', t⟩) :=
    Rw.Mine.set hr1 (by rw [hlen1, hlr]) (by rw [hlen1]; exact hr) (t := 2) (by decide) (by simp only [List.getElem_set_self]; rfl)
  have hgbR : ∀ b, R b → ¬ b = gb := fun b hb e => hh.dis gb hgbA (e ▸ hb)
  have hA'g : ∀ k (k1 : k < (rs.set i ⟨rs[i].lab, t', rs[i].last⟩).length) (k2 : k < (h.set i ⟨h[i].lab, h[i].pts ++ [pt], h[i].last⟩).length) b, (rs.set i ⟨rs[i].lab, t', rs[i].last⟩)[k].pts.v.ownBlock = some b → ¬ b = gb := fun k k1 k2 b hb e => by
    obtain ⟨cs, h3⟩ := (hrx.pts k k1 k2).typ hb
    subst e
    exact typ_ne ne_RP hgbx h3 rfl
  have hrz : RowsR ((x.setCell ⟨gb, i * 3 + 1, none⟩ t'.v).setCell ⟨gb, i * 3 + 2, none⟩ (.int .i64 t)) (fun b => A b ∨ t'.v.ownBlock = some b) R (rs.set i ⟨rs[i].lab, t', rs[i].last⟩) (h.set i ⟨h[i].lab, h[i].pts ++ [pt], h[i].last⟩) :=
    ⟨hrx.len, fun k k1 k2 => Rw.View.upon (hrx.lab k k1 k2) hu2 (fun b hb e => hgbR b hb e), fun k k1 k2 => Rw.Mine.upon (hrx.pts k k1 k2) hu2 (fun b hb e => hA'g k k1 k2 b hb e), hrx.last, hrx.own, hrx.apart⟩
  have hfin := hrz.setLast (i := i) (by simpa using hi) t (by simpa using hr)
  simp only [List.getElem_set_self, List.set_set] at hfin
  simp only [List.set_set] at hr2
  have hupA : Upon A w ((x.setCell ⟨gb, i * 3 + 1, none⟩ t'.v).setCell ⟨gb, i * 3 + 2, none⟩ (.int .i64 t)) :=
    Upon.setCell (p := ⟨gb, i * 3 + 2, none⟩) (Upon.setCell (p := ⟨gb, i * 3 + 1, none⟩) (hux.mono fun b _ e => hh.rows.own i hr b e) (.inl hgbA) _) (.inl hgbA) _
  refine ⟨fun b => A b ∨ t'.v.ownBlock = some b, _, ⟨?_, ?_, hfin, .inl hh.pA, fun b hb => .inl (hh.uA b hb), fun b hb hR => ?_, fun b hb => ?_⟩, fun b hb => .inl hb, fun b hb => ?_, hupA⟩
  · exact (hu2.block p (Array.getElem?_eq_some_iff.1 hboxx).1 hpg).trans hboxx
  · rw [huv]; exact hr2
  · rcases hb with hb | hb
    · exact hh.dis b hb hR
    · rcases hplt b hb with ⟨-, h1⟩ | ⟨h1, -⟩
      · exact hh.dis b h1 hR
      · have := hh.lt b (.inr hR); omega
  · have q1 := hupA.size
    have q2 := hu2.size
    rcases hb with (hb | hb) | hb
    · have := hh.lt b (.inl hb); omega
    · have := Rw.Mine.lt hm hb; omega
    · have := hh.lt b (.inr hb); omega
  · rcases hb with hb | hb
    · exact .inl hb
    · rcases hplt b hb with ⟨-, h1⟩ | ⟨h1, -⟩
      · exact .inl h1
      · exact .inr h1
/-! ### a row is put in -/
theorem RowsR.take {w : World} {A R : Nat → Prop} {rs : List RR} {h : H} (hh : RowsR w A R rs h) (n : Nat) : RowsR w A R (rs.take n) (h.take n) := by
  have hl := hh.len
  have g : ∀ k, k < (rs.take n).length → k < rs.length := fun k hk => by rw [List.length_take] at hk; omega
  have g' : ∀ k, k < (h.take n).length → k < h.length := fun k hk => by rw [List.length_take] at hk; omega
  refine ⟨by simp [hl], fun k k1 k2 => ?_, fun k k1 k2 => ?_, fun k k1 k2 => ?_, fun k k1 b hb => ?_, fun a c k1 k2 b hac hb he => ?_⟩
  · rw [List.getElem_take, List.getElem_take]; exact hh.lab k (g k k1) (g' k k2)
  · rw [List.getElem_take, List.getElem_take]; exact hh.pts k (g k k1) (g' k k2)
  · rw [List.getElem_take, List.getElem_take]; exact hh.last k (g k k1) (g' k k2)
  · rw [List.getElem_take] at hb; exact hh.own k (g k k1) b hb
  · rw [List.getElem_take] at hb he; exact hh.apart a c (g a k1) (g c k2) b hac hb he
theorem RowsR.drop {w : World} {A R : Nat → Prop} {rs : List RR} {h : H} (hh : RowsR w A R rs h) (n : Nat) : RowsR w A R (rs.drop n) (h.drop n) := by
  have hl := hh.len
  have g : ∀ k, k < (rs.drop n).length → n + k < rs.length := fun k hk => by rw [List.length_drop] at hk; omega
  have g' : ∀ k, k < (h.drop n).length → n + k < h.length := fun k hk => by rw [List.length_drop] at hk; omega
  refine ⟨by simp [hl], fun k k1 k2 => ?_, fun k k1 k2 => ?_, fun k k1 k2 => ?_, fun k k1 b hb => ?_, fun a c k1 k2 b hac hb he => ?_⟩
  · rw [List.getElem_drop, List.getElem_drop]; exact hh.lab (n + k) (g k k1) (g' k k2)
  · rw [List.getElem_drop, List.getElem_drop]; exact hh.pts (n + k) (g k k1) (g' k k2)
  · rw [List.getElem_drop, List.getElem_drop]; exact hh.last (n + k) (g k k1) (g' k k2)
  · rw [List.getElem_drop] at hb; exact hh.own (n + k) (g k k1) b hb
  · rw [List.getElem_drop] at hb he; exact hh.apart (n + a) (n + c) (g a k1) (g c k2) b (by omega) hb he
theorem RowsR.append {w : World} {A R : Nat → Prop} {rs qs : List RR} {h g : H} (hh : RowsR w A R rs h) (hg : RowsR w A R qs g)
    (hx : ∀ a c (k1 : a < rs.length) (k2 : c < qs.length) b, rs[a].pts.v.ownBlock = some b → qs[c].pts.v.ownBlock ≠ some b) : RowsR w A R (rs ++ qs) (h ++ g) := by
  have hl := hh.len
  have hl2 := hg.len
  have e : ∀ k (k1 : k < (rs ++ qs).length) (k2 : k < (h ++ g).length), (∃ (a : k < rs.length) (b : k < h.length), (rs ++ qs)[k] = rs[k] ∧ (h ++ g)[k] = h[k]) ∨ ∃ (c : Nat) (a : c < qs.length) (b : c < g.length), k = rs.length + c ∧ (rs ++ qs)[k] = qs[c] ∧ (h ++ g)[k] = g[c] := fun k k1 k2 => by
    by_cases hk : k < rs.length
    · exact .inl ⟨hk, by omega, List.getElem_append_left hk, List.getElem_append_left (by omega)⟩
    · have k1' : k < rs.length + qs.length := by simpa using k1
      refine .inr ⟨k - rs.length, by omega, by omega, by omega, List.getElem_append_right (by omega), ?_⟩
      rw [List.getElem_append_right (by omega)]
      simp only [hl]
  have e2 : ∀ k, k < (rs ++ qs).length → k < (h ++ g).length := fun k hk => by simp at hk ⊢; omega
  refine ⟨by simp [hl, hl2], fun k k1 k2 => ?_, fun k k1 k2 => ?_, fun k k1 k2 => ?_, fun k k1 b hb => ?_, fun a c k1 k2 b hac hb he => ?_⟩
  · rcases e k k1 k2 with ⟨a, b, e1, e2⟩ | ⟨c, a, b, -, e1, e2⟩
    · rw [e1, e2]; exact hh.lab k a b
    · rw [e1, e2]; exact hg.lab c a b
  · rcases e k k1 k2 with ⟨a, b, e1, e2⟩ | ⟨c, a, b, -, e1, e2⟩
    · rw [e1, e2]; exact hh.pts k a b
    · rw [e1, e2]; exact hg.pts c a b
  · rcases e k k1 k2 with ⟨a, b, e1, e2⟩ | ⟨c, a, b, -, e1, e2⟩
    · rw [e1, e2]; exact hh.last k a b
    · rw [e1, e2]; exact hg.last c a b
  · rcases e k k1 (e2 k k1) with ⟨a, _, e1, _⟩ | ⟨c, a, _, -, e1, _⟩
    · rw [e1] at hb; exact hh.own k a b hb
    · rw [e1] at hb; exact hg.own c a b hb
  · rcases e a k1 (e2 a k1) with ⟨a1, _, e1, _⟩ | ⟨d, a1, _, ed, e1, _⟩ <;> rcases e c k2 (e2 c k2) with ⟨a2, _, e3, _⟩ | ⟨d', a2, _, ed', e3, _⟩
    · rw [e1] at hb; rw [e3] at he; exact hh.apart a c a1 a2 b hac hb he
    · rw [e1] at hb; rw [e3] at he; exact hx a d' a1 a2 b hb he
    · rw [e1] at hb; rw [e3] at he; exact hx c d a2 a1 b he hb
    · rw [e1] at hb; rw [e3] at he; exact hg.apart d d' a1 a2 b (by omega) hb he
theorem ne_RL : (59 : TypeId) ≠ 72 := by decide
set_option maxHeartbeats 1600000 in
/-- A row more, without points, in place i. -/
theorem HeadR.insert {w x : World} {A R : Nat → Prop} {p : Nat} {u u' lab' : Rw.Sl} {rs : List RR} {h : H} {l : List Lb.Pr} (hh : HeadR w A R p u rs h) (hx : New0 w x) (i : Nat)
    (hl : Lb.Mine x lab'.v l) (hlb : ∀ b, lab'.v.ownBlock = some b → w.heap.size ≤ b) (hrow : RMine x u'.v (rs.take i ++ [⟨lab', ⟨none, 0, 0⟩, 0⟩] ++ rs.drop i)) (hub : ∀ b, u'.v.ownBlock = some b → w.heap.size ≤ b) :
    ∃ A' R', HeadR (x.setCell ⟨p, 0, none⟩ u'.v) A' R' p u' (rs.take i ++ [⟨lab', ⟨none, 0, 0⟩, 0⟩] ++ rs.drop i) (h.take i ++ [⟨l, [], 0⟩] ++ h.drop i) ∧ (∀ b, A b → A' b) ∧ (∀ b, A' b → A b ∨ w.heap.size ≤ b) ∧ (∀ b, R' b → R b ∨ w.heap.size ≤ b) ∧ Upon A w (x.setCell ⟨p, 0, none⟩ u'.v) := by
  have hhx := hh.new hx
  have hup : Upon (fun b => b = p) x (x.setCell ⟨p, 0, none⟩ u'.v) := Upon.setCell (S := fun b => b = p) (p := ⟨p, 0, none⟩) (Upon.refl _ x) (.inl rfl) _
  have hplt := (Array.getElem?_eq_some_iff.1 hh.box).1
  have hrows0 : RowsR x (fun b => A b ∨ u'.v.ownBlock = some b) (fun b => R b ∨ lab'.v.ownBlock = some b) rs h := hhx.rows.mono (fun b _ hb => .inl hb) (fun b _ hb => .inl hb)
  have hlv : Lb.View x (fun b => R b ∨ lab'.v.ownBlock = some b) lab'.v l := Rw.View.mono (Rw.Mine.view hl) (fun b _ hb => .inr hb)
  have hrows1 := ((hrows0.take i).snoc (r := ⟨lab', ⟨none, 0, 0⟩, 0⟩) (x := ⟨l, [], 0⟩) hlv (Rw.Mine.nil _ _ _) rfl (fun b hb => (by cases hb)) (fun b hb => (by cases hb))).append (hrows0.drop i) (fun a c k1 k2 b hb he => by
    by_cases ha : a < (rs.take i).length
    · rw [List.getElem_append_left ha, List.getElem_take] at hb
      rw [List.getElem_drop] at he
      have ha2 := ha
      rw [List.length_take] at ha2
      rw [List.length_drop] at k2
      exact hrows0.apart a (i + c) (by omega) (by omega) b (by omega) hb he
    · rw [List.getElem_append_right (by omega)] at hb
      simp at hb
      cases hb)
  have hpn : ∀ b, (A b ∨ u'.v.ownBlock = some b) → ∀ cs T, x.heap[b]? = some (.cells cs T (0, 0)) → (30 : TypeId) ≠ T → ¬ b = p := fun b _ cs T hc hT e => by
    subst e; exact typ_ne hT hhx.box hc rfl
  have hrows2 : RowsR (x.setCell ⟨p, 0, none⟩ u'.v) (fun b => A b ∨ u'.v.ownBlock = some b) (fun b => R b ∨ lab'.v.ownBlock = some b) (rs.take i ++ [⟨lab', ⟨none, 0, 0⟩, 0⟩] ++ rs.drop i) (h.take i ++ [⟨l, [], 0⟩] ++ h.drop i) :=
    ⟨hrows1.len, fun k k1 k2 => Rw.View.upon (hrows1.lab k k1 k2) hup (fun b hb e => by
      subst e
      rcases hb with hb | hb
      · exact hh.dis _ hh.pA hb
      · have := hlb _ hb; omega), fun k k1 k2 => Rw.Mine.upon (hrows1.pts k k1 k2) hup (fun b hb => by
        obtain ⟨cs, hc⟩ := (hrows1.pts k k1 k2).typ hb
        exact hpn b (hrows1.own k k1 b hb) cs _ hc ne_HP), hrows1.last, hrows1.own, hrows1.apart⟩
  have hbox2 : (x.setCell ⟨p, 0, none⟩ u'.v).heap[p]? = some (.cells #[u'.v] 30 (0, 0)) := by
    simp [World.setCell, Array.getElem?_modify, hhx.box]
  have hrow2 : RMine (x.setCell ⟨p, 0, none⟩ u'.v) u'.v (rs.take i ++ [⟨lab', ⟨none, 0, 0⟩, 0⟩] ++ rs.drop i) := Rw.Mine.upon hrow hup (fun b hb e => by have := hub b hb; omega)
  have hupA : Upon A w (x.setCell ⟨p, 0, none⟩ u'.v) := Upon.setCell (p := ⟨p, 0, none⟩) (hx.mono fun _ _ f => f.elim) (.inl hh.pA) _
  refine ⟨_, _, ⟨hbox2, hrow2, hrows2, .inl hh.pA, fun b hb => .inr hb, fun b hb hR => ?_, fun b hb => ?_⟩, fun b hb => .inl hb, fun b hb => hb.imp id (hub b), fun b hb => hb.imp id (hlb b), hupA⟩
  · rcases hb with hb | hb <;> rcases hR with hR | hR
    · exact hh.dis b hb hR
    · have := hh.lt b (.inl hb); have := hlb b hR; omega
    · have := hh.lt b (.inr hR); have := hub b hb; omega
    · obtain ⟨cs, h1⟩ := hrow.typ hb
      obtain ⟨cs2, h2⟩ := Rw.Mine.typ hl hR
      exact typ_ne ne_RL h1 h2 rfl
  · have q1 := hx.size
    have q2 := hup.size
    rcases hb with (hb | hb) | (hb | hb)
    · have := hh.lt b (.inl hb); omega
    · have := Rw.Mine.lt hrow hb; omega
    · have := hh.lt b (.inr hb); omega
    · have := Rw.Mine.lt hl hb; omega
end Hd
end Go.Proofs.YtfheehlfodoimaaGreat
end

/- The document's head (layer 13): put, walked. -/
section
set_option maxRecDepth 100000
namespace Go.Proofs.YtfheehlfodoimaaGreat
open Go.RowKit Go.Sort
namespace Hd
open Bit Dsk Ob Dig
set_option linter.unusedVariables false
set_option linter.unusedSimpArgs false

theorem HeadR.at2 {w : World} {A R : Nat → Prop} {p : Nat} {u : Rw.Sl} {rs : List RR} {h : H} (hh : HeadR w A R p u rs h) {i : Nat} (hi : i < h.length) {g c : Nat} (hu : u = ⟨some ⟨g, 0, none⟩, h.length, c⟩) (hri : i < rs.length) :
    w.cell? ⟨p, 0, none⟩ = some (.slice (some ⟨g, 0, none⟩) h.length c) ∧ w.cell? ⟨g, i * 3 + 1, none⟩ = some (.slice rs[i].pts.a rs[i].pts.n rs[i].pts.c) ∧ w.cell? ⟨g, i * 3 + 2, none⟩ = some (.int .i64 h[i].last) ∧ PMine w (.slice rs[i].pts.a rs[i].pts.n rs[i].pts.c) h[i].pts ∧ ∀ j, w.frozen? ⟨g, j, none⟩ = false := by
  obtain ⟨g', c', r', hu', -, hr', x0, x1, x2, -, hpm, hfz⟩ := hh.at hi
  rw [hu] at hu'
  injection hu' with e1 e2 e3
  injection e1 with e1
  injection e1 with e1 _ _
  subst e1
  have e4 : rs[i] = r' := by rw [List.getElem?_eq_getElem hri] at hr'; exact Option.some.inj hr'
  subst e4
  have b0 := hh.box0
  rw [hu] at b0
  exact ⟨b0, x1, x2, hpm, hfz⟩
set_option maxHeartbeats 12800000 in
theorem put_in (w : World) {A R : Nat → Prop} {p : Nat} {u : Rw.Sl} {rs : List RR} {h : H} (hh : HeadR w A R p u rs h) (hsane : Sane h) (S : Nat → Prop) (la : Option Addr) (lc : Nat) (l : List Lb.Pr) (t : Int) (q : Nat) (hv : Lb.View w S (.slice la l.length lc) l)
    (hin : isIn h l = true) (hold : ¬ t ≤ lastAt h l) :
    Calls Tryz.prog 18 #[.pointer (some ⟨p, 0, none⟩), .agg #[.slice la l.length lc, .int .i64 t, .int .u64 (q : Int)]] w fun e w' => e = .returned (.bool true) ∧ PutE w w' A R p (add h (l, t, q)) := by
  have ux := (Upon.refl (fun _ => False) w).alloc (.cells #[.slice la l.length lc, .int .i64 t, .int .u64 (q : Int)] 42 (0, 0))
  have hT : Rw.Blk3 42 w.heap.size (.slice la l.length lc) (.int .i64 t) (.int .u64 (q : Int)) (w.alloc (.cells #[.slice la l.length lc, .int .i64 t, .int .u64 (q : Int)] 42 (0, 0))) := cell_new w _
  obtain ⟨wx, hwx⟩ : ∃ wx, w.alloc (.cells #[.slice la l.length lc, .int .i64 t, .int .u64 (q : Int)] 42 (0, 0)) = wx := ⟨_, rfl⟩
  have hT' := hT.cells
  have HA := at_any _ (hh.new ux) S _ l (Rw.View.new hv ux)
  rw [hin] at HA
  rw [hwx] at ux hT
  obtain ⟨hj, hlab⟩ := isIn_lt hin
  obtain ⟨g, c, r, hu, -, hr, -, -, -, -, -, -⟩ := hh.at hj
  have hlr := hh.rows.len
  have hri : ix h l < rs.length := by omega
  obtain rfl : rs[ix h l] = r := by rw [List.getElem?_eq_getElem hri] at hr; exact Option.some.inj hr
  have hadd : add h (l, t, q) = h.set (ix h l) ⟨h[ix h l].lab, h[ix h l].pts ++ [(t, q)], t⟩ := by
    simp only [add, room_in hin, grow1]
  rw [lastAt_is hj] at hold
  have hh0 := Lib.hid (fun w' (hu : New0 wx w') => hh.new (ux.trans hu))
  have hC := Lib.hid (fun w' (hu : New0 wx w') => (hT.new hu).cells)
  have hF := Lib.hid (fun w' (hu2 : New0 wx w') => (hh.new (ux.trans hu2)).at2 hj hu hri)
  have hpl := hsane.pts _ (List.getElem_mem hj)
  replace hadd := Lib.hid hadd
  replace HA := Lib.hid HA
  replace hwx := Lib.hid hwx
  replace hT := Lib.hid hT
  replace ux := Lib.hid ux
  replace hu := Lib.hid hu
  obtain ⟨lst, hlst⟩ : ∃ lst, h[ix h l].last = lst := ⟨_, rfl⟩
  obtain ⟨pts, hpts⟩ : ∃ pts, h[ix h l].pts = pts := ⟨_, rfl⟩
  have hgr := Lib.hid (fun (W x : World) (k1 : New0 wx W) (t' : Rw.Sl) (k2 : PMine x t'.v (h[ix h l].pts ++ [(t, q)])) (k3 : W.grownBy x rs[ix h l].pts.v.ownBlock) (k4 : t'.v.ownBlock = rs[ix h l].pts.v.ownBlock ∨ t'.v.ownBlock = some W.heap.size) => HeadR.grow hh (ux.out.trans k1) hj hu.out hri k2 k3 k4 t)
  rw [hlst] at hold hF
  rw [hpts] at hF hpl hgr
  have hD := Lib.hid (fun b (hb : rs[ix h l].pts.v.ownBlock = some b) => (hh.rows.pts _ hri hj).typ hb)
  have hgtyp : ∃ cs, w.heap[g]? = some (.cells cs 59 (0, 0)) := Rw.Mine.typ hh.row (g := g) (by rw [hu.out]; rfl)
  have hne : ∀ b, rs[ix h l].pts.v.ownBlock = some b → b ≠ p ∧ b ≠ g ∧ b < w.heap.size := fun b hb => by
    obtain ⟨cs, h1⟩ := hD.out b hb
    obtain ⟨cs2, h2⟩ := hgtyp
    exact ⟨(typ_ne ne_HP hh.box h1).symm, (typ_ne ne_RP h2 h1).symm, (Array.getElem?_eq_some_iff.1 h1).1⟩
  replace hne := Lib.hid hne
  have hpg : p ≠ g := by obtain ⟨cs2, h2⟩ := hgtyp; exact typ_ne ne_HR hh.box h2
  have hglt : g < w.heap.size := by obtain ⟨cs2, h2⟩ := hgtyp; exact (Array.getElem?_eq_some_iff.1 h2).1
  replace hpg := Lib.hid hpg
  replace hglt := Lib.hid hglt
  obtain ⟨⟨pa, pn, pc⟩, hps⟩ : ∃ s, rs[ix h l].pts = s := ⟨_, rfl⟩
  rw [hps] at hF hgr hne
  simp only at hF
  have hhl := hh.few
  obtain ⟨i, hi⟩ : ∃ i, ix h l = i := ⟨_, rfl⟩
  have hadd2 := hadd.out.symm
  rw [hpts] at hadd2
  simp only [hi] at hadd2
  replace hadd2 := Lib.hid hadd2
  simp only [hi] at HA hF hgr hj
  clear hD hgtyp hh hv hr hlab hps hlst hpts hadd hri hlr hin
  have d1 : decide (t ≤ lst) = false := decide_eq_false hold
  obtain ⟨s0, s1, s2⟩ := hT'
  go_enter Tryz.func18, Tryz.ntmps18
  go_wp2_with fail
  refine HA.out.mono ?_
  rintro e w2 ⟨rfl, n, rfl⟩
  rw [hwx.out]
  have hn2 := Lib.hid (upon_drewN (fun _ => False) wx n)
  clear HA s0 s1 s2 hwx
  generalize wx.drewN n = w2 at *
  obtain ⟨b0, x1, x2, -, -⟩ := hF.out w2 hn2.out
  obtain ⟨s0, s1, s2⟩ := hC.out w2 hn2.out
  go_wp2_with fail
  go_quiet (fail)
  have hn3 := Lib.hid (hn2.out.trans (upon_drewN (fun _ => False) w2 nq))
  clear b0 x1 x2 s0 s1 s2 hn2
  generalize w2.drewN nq = W at *
  obtain ⟨b0, x1, x2, hpm, hfz⟩ := hF.out W hn3.out
  obtain ⟨s0, s1, s2⟩ := hC.out W hn3.out
  have hgf := hfz (i * 3 + 1)
  have hgf2 := Lib.hid (hfz (i * 3 + 2))
  have hS : Hid (∀ w', Upon (fun b => (Value.slice pa pn pc).ownBlock = some b) W w' → w'.cell? ⟨p, 0, none⟩ = some (.slice (some ⟨g, 0, none⟩) h.length c) ∧ w'.cell? ⟨g, i * 3 + 1, none⟩ = some (.slice pa pn pc) ∧ w'.cell? ⟨w.heap.size, 1, none⟩ = some (.int .i64 t) ∧ w'.cell? ⟨w.heap.size, 2, none⟩ = some (.int .u64 (q : Int)) ∧ w'.frozen? ⟨g, i * 3 + 1, none⟩ = false) := Lib.hid (fun w' hu => by
    have k : ∀ (b o : Nat) (v : Value), W.cell? ⟨b, o, none⟩ = some v → (¬ (Value.slice pa pn pc).ownBlock = some b) → w'.cell? ⟨b, o, none⟩ = some v := fun b o v hc hn => by
      rw [← hc, World.cell?, World.cell?, hu.block b (World.block_lt_of_cell? W _ hc) hn]
    have kg := fun e => (hne.out g e).2.1 rfl
    refine ⟨k _ _ _ b0 (fun e => (hne.out p e).1 rfl), k _ _ _ x1 kg, k _ _ _ s1 (fun e => by have := (hne.out _ e).2.2; omega), k _ _ _ s2 (fun e => by have := (hne.out _ e).2.2; omega), ?_⟩
    rw [← hgf, World.frozen?, World.frozen?, hu.block g (World.block_lt_of_cell? W _ x1) kg])
  have x1a := (hS.out (W.alloc (.cells #[.int .i64 t, .int .u64 (q : Int)] 81 (0, 0))) ((Upon.refl _ W).alloc _)).2.1
  have hS2 : Hid (∀ w', Upon (fun b => (Value.slice pa pn pc).ownBlock = some b ∨ b = g) W w' → w'.cell? ⟨p, 0, none⟩ = some (.slice (some ⟨g, 0, none⟩) h.length c) ∧ w'.cell? ⟨w.heap.size, 1, none⟩ = some (.int .i64 t) ∧ w'.cell? ⟨w.heap.size, 2, none⟩ = some (.int .u64 (q : Int))) := Lib.hid (fun w' hu => by
    have k : ∀ (b o : Nat) (v : Value), W.cell? ⟨b, o, none⟩ = some v → (¬ (Value.slice pa pn pc).ownBlock = some b) → b ≠ g → w'.cell? ⟨b, o, none⟩ = some v := fun b o v hc hn hg => by
      rw [← hc, World.cell?, World.cell?, hu.block b (World.block_lt_of_cell? W _ hc) (fun e => e.elim hn hg)]
    exact ⟨k _ _ _ b0 (fun e => (hne.out p e).1 rfl) hpg.out, k _ _ _ s1 (fun e => by have := (hne.out _ e).2.2; omega) (by have := hglt.out; omega), k _ _ _ s2 (fun e => by have := (hne.out _ e).2.2; omega) (by have := hglt.out; omega)⟩)
  replace hpm := Lib.hid hpm
  clear hfz
  go_wp2_with fail
  have b0a := (hS.out (W.alloc (.cells #[.int .i64 t, .int .u64 (q : Int)] 81 (0, 0))) ((Upon.refl _ W).alloc _)).1
  go_cut [] from 55 to 76 (fun wc => ∃ (X x : World) (A8 : Option Addr) (c8 : Nat), wc = x.setCell ⟨g, i * 3 + 1, none⟩ (.slice A8 (pts.length + 1) c8) ∧ Hid (New0 W X) ∧ Hid (PMine x (.slice A8 (pts ++ [(t, q)]).length c8) (pts ++ [(t, q)])) ∧ Hid (X.grownBy x (Value.slice pa pn pc).ownBlock) ∧ Hid ((Value.slice A8 (pts ++ [(t, q)]).length c8).ownBlock = (Value.slice pa pn pc).ownBlock ∨ (Value.slice A8 (pts ++ [(t, q)]).length c8).ownBlock = some X.heap.size))
  case first =>
    refine wp_region_held_drew (S := fun w' => w'.cell? ⟨p, 0, none⟩ = some (.slice (some ⟨g, 0, none⟩) h.length c) ∧ w'.cell? ⟨w.heap.size, 1, none⟩ = some (.int .i64 t) ∧ w'.cell? ⟨w.heap.size, 2, none⟩ = some (.int .u64 (q : Int))) (by kernel_rfl) (hS2.out _ ((Upon.refl _ W).drew)) (fun hHeld => ?_)
    refine wpAnyH_take (i := 0) (oi := _) (v := ?_) rfl (by kernel_rfl) (by kernel_rfl) (by kernel_rfl) (fun _ _ _ h => h) (Or.inl ⟨by rfl, ?_⟩) (by assumption) ?_
    rotate_left
    · (intro w hSw; (try dsimp only at hSw); go_simp; (try with_reducible rfl))
    (try simp only [Act.put, List.setIfInBounds_toArray, List.set_cons_zero, List.set_cons_succ])
    refine wpAnyH_take (i := 1) (oi := _) (v := ?_) rfl (by kernel_rfl) (by kernel_rfl) (by kernel_rfl) (fun _ _ _ h => h) (Or.inl ⟨by rfl, ?_⟩) (by assumption) ?_
    rotate_left
    · (intro w hSw; (try dsimp only at hSw); go_simp; (try with_reducible rfl))
    (try simp only [Act.put, List.setIfInBounds_toArray, List.set_cons_zero, List.set_cons_succ])
    refine wpAnyH_take (i := 2) (oi := _) (v := ?_) rfl (by kernel_rfl) (by kernel_rfl) (by kernel_rfl) (fun _ _ _ h => h) (Or.inl ⟨by rfl, ?_⟩) (by assumption) ?_
    rotate_left
    · (intro w hSw; (try dsimp only at hSw); go_simp; (try with_reducible rfl))
    (try simp only [Act.put, List.setIfInBounds_toArray, List.set_cons_zero, List.set_cons_succ])
    refine wpAnyH_take (i := 3) (oi := _) (v := ?_) rfl (by kernel_rfl) (by kernel_rfl) (by kernel_rfl) (fun _ _ _ h => h) (Or.inl ⟨by rfl, ?_⟩) (by assumption) ?_
    rotate_left
    · (intro w hSw; (try dsimp only at hSw); go_simp; (try with_reducible rfl))
    (try simp only [Act.put, List.setIfInBounds_toArray, List.set_cons_zero, List.set_cons_succ])
    refine wpAnyH_take (i := 4) (oi := _) (v := ?_) rfl (by kernel_rfl) (by kernel_rfl) (by kernel_rfl) (fun _ _ _ h => h) (Or.inl ⟨by rfl, ?_⟩) (by assumption) ?_
    rotate_left
    · (intro w hSw; (try dsimp only at hSw); go_simp; (try with_reducible rfl))
    (try simp only [Act.put, List.setIfInBounds_toArray, List.set_cons_zero, List.set_cons_succ])
    refine wpAnyH_take (i := 5) (oi := _) (v := ?_) rfl (by kernel_rfl) (by kernel_rfl) (by kernel_rfl) (fun _ _ _ h => h) (Or.inl ⟨by rfl, ?_⟩) (by assumption) ?_
    rotate_left
    · (intro w hSw; (try dsimp only at hSw); go_simp; (try with_reducible rfl))
    (try simp only [Act.put, List.setIfInBounds_toArray, List.set_cons_zero, List.set_cons_succ])
    refine wpAnyH_take (i := 6) (oi := _) (v := ?_) rfl (by kernel_rfl) (by kernel_rfl) (by kernel_rfl) (fun _ _ _ h => h) (Or.inl ⟨by rfl, ?_⟩) (by assumption) ?_
    rotate_left
    · (intro w hSw; (try dsimp only at hSw); go_simp; (try with_reducible rfl))
    (try simp only [Act.put, List.setIfInBounds_toArray, List.set_cons_zero, List.set_cons_succ])
    refine wpAnyH_take (i := 7) (oi := _) (v := ?_) rfl (by kernel_rfl) (by kernel_rfl) (by kernel_rfl) (fun _ _ _ h => h) (Or.inl ⟨by rfl, ?_⟩) (by assumption) ?_
    rotate_left
    · (intro w hSw; (try dsimp only at hSw); go_simp; (try with_reducible rfl))
    (try simp only [Act.put, List.setIfInBounds_toArray, List.set_cons_zero, List.set_cons_succ])
    refine wpAnyH_take (i := 8) (oi := _) (v := ?_) rfl (by kernel_rfl) (by kernel_rfl) (by kernel_rfl) (fun _ _ _ h => h) (Or.inl ⟨by rfl, ?_⟩) (by assumption) ?_
    rotate_left
    · (intro w hSw; (try dsimp only at hSw); go_simp; (try with_reducible rfl))
    (try simp only [Act.put, List.setIfInBounds_toArray, List.set_cons_zero, List.set_cons_succ])
    refine wpAnyH_take (i := 9) (oi := _) (v := ?_) rfl (by kernel_rfl) (by kernel_rfl) (by kernel_rfl) (fun _ _ _ h => h) (Or.inl ⟨by rfl, ?_⟩) (by assumption) ?_
    rotate_left
    · (intro w hSw; (try dsimp only at hSw); go_simp; (try with_reducible rfl))
    (try simp only [Act.put, List.setIfInBounds_toArray, List.set_cons_zero, List.set_cons_succ])
    refine wpAnyH_take (i := 10) (oi := _) (v := ?_) rfl (by kernel_rfl) (by kernel_rfl) (by kernel_rfl) (fun _ _ _ h => h) (Or.inl ⟨by rfl, ?_⟩) (by assumption) ?_
    rotate_left
    · (intro w hSw; (try dsimp only at hSw); go_simp; (try with_reducible rfl))
    (try simp only [Act.put, List.setIfInBounds_toArray, List.set_cons_zero, List.set_cons_succ])
    refine wpAnyH_take (i := 11) (oi := _) (v := ?_) rfl (by kernel_rfl) (by kernel_rfl) (by kernel_rfl) (fun _ _ _ h => h) (Or.inl ⟨by rfl, ?_⟩) (by assumption) ?_
    rotate_left
    · (intro w hSw; (try dsimp only at hSw); go_simp; (try with_reducible rfl))
    (try simp only [Act.put, List.setIfInBounds_toArray, List.set_cons_zero, List.set_cons_succ])
    refine wpAnyH_take (i := 13) (oi := _) (v := ?_) rfl (by kernel_rfl) (by kernel_rfl) (by kernel_rfl) (fun _ _ _ h => h) (Or.inl ⟨by rfl, ?_⟩) (by assumption) ?_
    rotate_left
    · (intro w hSw; (try dsimp only at hSw); go_simp; (try with_reducible rfl))
    (try simp only [Act.put, List.setIfInBounds_toArray, List.set_cons_zero, List.set_cons_succ])
    refine wpAnyH_take (i := 14) (oi := _) (v := ?_) rfl (by kernel_rfl) (by kernel_rfl) (by kernel_rfl) (fun _ _ _ h => h) (Or.inl ⟨by rfl, ?_⟩) (by assumption) ?_
    rotate_left
    · (intro w hSw; (try dsimp only at hSw); go_simp; (try with_reducible rfl))
    (try simp only [Act.put, List.setIfInBounds_toArray, List.set_cons_zero, List.set_cons_succ])
    refine wpAnyH_take (i := 15) (oi := _) (v := ?_) rfl (by kernel_rfl) (by kernel_rfl) (by kernel_rfl) (fun _ _ _ h => h) (Or.inl ⟨by rfl, ?_⟩) (by assumption) ?_
    rotate_left
    · (intro w hSw; (try dsimp only at hSw); go_simp; (try with_reducible rfl))
    (try simp only [Act.put, List.setIfInBounds_toArray, List.set_cons_zero, List.set_cons_succ])
    refine wpAnyH_take (i := 16) (oi := _) (v := ?_) rfl (by kernel_rfl) (by kernel_rfl) (by kernel_rfl) (fun _ _ _ h => h) (Or.inl ⟨by rfl, ?_⟩) (by assumption) ?_
    rotate_left
    · (intro w hSw; (try dsimp only at hSw); go_simp; (try with_reducible rfl))
    (try simp only [Act.put, List.setIfInBounds_toArray, List.set_cons_zero, List.set_cons_succ])
    refine wpAnyH_take (i := 17) (oi := _) (v := ?_) rfl (by kernel_rfl) (by kernel_rfl) (by kernel_rfl) (fun _ _ _ h => h) (Or.inl ⟨by rfl, ?_⟩) (by assumption) ?_
    rotate_left
    · (intro w hSw; (try dsimp only at hSw); go_simp; (try with_reducible rfl))
    (try simp only [Act.put, List.setIfInBounds_toArray, List.set_cons_zero, List.set_cons_succ])
    refine wpAnyH_ready (rs := [12, 18]) (by kernel_rfl) (by simp) ?_
    refine AllReadyH.cons (o := ⟨some 67, _, _, _, _, _⟩) rfl (fun K hK => ?_) ?_
    · go_simp
      refine hK.out _ _ ?_ (fun hHeld => ?_)
      · try dsimp only
        refine hS2.out _ ?_
        repeat (first | assumption | exact Upon.refl _ _ | refine Upon.drew ?_ | refine Upon.alloc ?_ _ | refine Upon.setCell (p := ⟨g, _, none⟩) ?_ (.inl (.inr rfl)) _)
      clear hK K
      (try simp only [Act.put, List.setIfInBounds_toArray, List.set_cons_zero, List.set_cons_succ])
      refine wpAnyH_ready (rs := [18]) (by kernel_rfl) (by simp) ?_
      refine AllReadyH.cons (o := ⟨some 73, _, _, _, _, _⟩) rfl (fun K hK => ?_) ?_
      · go_simp
        refine hK.out _ _ ?_ (fun hHeld => ?_)
        · try dsimp only
          refine hS2.out _ ?_
          repeat (first | assumption | exact Upon.refl _ _ | refine Upon.drew ?_ | refine Upon.alloc ?_ _ | refine Upon.setCell (p := ⟨g, _, none⟩) ?_ (.inl (.inr rfl)) _)
        clear hK K
        (try simp only [Act.put, List.setIfInBounds_toArray, List.set_cons_zero, List.set_cons_succ])
        refine wpAnyH_ready (rs := [19]) (by kernel_rfl) (by simp) ?_
        refine AllReadyH.cons (o := ⟨some 74, _, _, _, _, _⟩) rfl (fun K hK => ?_) ?_
        · refine Rw.step_append typP (o := ⟨some 74, _, _, _, _, _⟩) (by rfl) _ _ (by rfl) (.slice pa pn pc) _ pts [(t, q)] All (by rfl) (by rfl) (hpm.out.new (by repeat (first | assumption | exact Upon.refl _ _ | refine Upon.drew ?_ | refine Upon.alloc ?_ _))) (by first | exact Rw.View.new (pview_one W t q) (by repeat (first | assumption | exact Upon.refl _ _ | refine Upon.drew ?_ | refine Upon.alloc ?_ _)) | exact Rw.View.new (pview_one W.drew t q) (by repeat (first | assumption | exact Upon.refl _ _ | refine Upon.drew ?_ | refine Upon.alloc ?_ _))) (by rw [List.length_singleton]; omega) (by rw [List.length_singleton]; omega) ?_
          intro v' x hown hg hb
          have hux : Upon (fun b => (Value.slice pa pn pc).ownBlock = some b) W x := Upon.grown (by repeat (first | assumption | exact Upon.refl _ _ | refine Upon.drew ?_ | refine Upon.alloc ?_ _)) hg (fun k hk => .inl hk)
          have hux2 : Upon (fun b => (Value.slice pa pn pc).ownBlock = some b ∨ b = g) W x := hux.mono fun _ _ h => .inl h
          obtain ⟨px, x1x, -, -, tfx⟩ := hS.out x hux
          obtain ⟨A8, c8, rfl, -, -⟩ := Rw.View.shape (show PMine x v' (pts ++ [(t, q)]) from hown).view
          refine hK.out _ _ ?_ (fun hHeld => ?_)
          · try dsimp only
            refine hS2.out _ ?_
            repeat (first | assumption | exact Upon.refl _ _ | refine Upon.drew ?_ | refine Upon.alloc ?_ _ | refine Upon.setCell (p := ⟨g, _, none⟩) ?_ (.inl (.inr rfl)) _)
          clear hK K
          (try simp only [Act.put, List.setIfInBounds_toArray, List.set_cons_zero, List.set_cons_succ])
          refine wpAnyH_take (i := 20) (oi := _) (v := ?_) rfl (by kernel_rfl) (by kernel_rfl) (by kernel_rfl) (fun _ _ _ h => h) (Or.inl ⟨by rfl, ?_⟩) (by assumption) ?_
          rotate_left
          · (intro w hSw; (try dsimp only at hSw); go_simp; (try with_reducible rfl))
          (try simp only [Act.put, List.setIfInBounds_toArray, List.set_cons_zero, List.set_cons_succ])
          refine wpAnyH_take (i := 21) (oi := _) (v := ?_) rfl (by kernel_rfl) (by kernel_rfl) (by kernel_rfl) (fun _ _ _ h => h) (Or.inl ⟨by rfl, ?_⟩) (by assumption) ?_
          rotate_left
          · (intro w hSw; (try dsimp only at hSw); go_simp; (try with_reducible rfl))
          (try simp only [Act.put, List.setIfInBounds_toArray, List.set_cons_zero, List.set_cons_succ])
          refine wpAnyH_ready (rs := [22]) (by kernel_rfl) (by simp) ?_
          refine AllReadyH.cons (o := ⟨none, _, _, _, _, _⟩) rfl (fun K hK => ?_) ?_
          · go_simp
            refine hK.out _ _ ?_ (fun hHeld => ?_)
            · try dsimp only
              refine hS2.out _ ?_
              repeat (first | assumption | exact Upon.refl _ _ | refine Upon.drew ?_ | refine Upon.alloc ?_ _ | refine Upon.setCell (p := ⟨g, _, none⟩) ?_ (.inl (.inr rfl)) _)
            clear hK K
            (try simp only [Act.put, List.setIfInBounds_toArray, List.set_cons_zero, List.set_cons_succ])
            refine wpAnyH_done (by kernel_rfl) ?_ _
            go_wp2_with fail
            go_meet
            exact ⟨_, _, _, _, rfl, Lib.hid (by repeat (first | assumption | exact Upon.refl _ _ | refine Upon.drew ?_ | refine Upon.alloc ?_ _)), Lib.hid hown, Lib.hid hg, Lib.hid hb⟩
          exact AllReadyH.nil
        exact AllReadyH.nil
      exact AllReadyH.nil
    refine AllReadyH.cons (o := ⟨some 73, _, _, _, _, _⟩) rfl (fun K hK => ?_) ?_
    · go_simp
      refine hK.out _ _ ?_ (fun hHeld => ?_)
      · try dsimp only
        refine hS2.out _ ?_
        repeat (first | assumption | exact Upon.refl _ _ | refine Upon.drew ?_ | refine Upon.alloc ?_ _ | refine Upon.setCell (p := ⟨g, _, none⟩) ?_ (.inl (.inr rfl)) _)
      clear hK K
      (try simp only [Act.put, List.setIfInBounds_toArray, List.set_cons_zero, List.set_cons_succ])
      refine wpAnyH_ready (rs := [12]) (by kernel_rfl) (by simp) ?_
      refine AllReadyH.cons (o := ⟨some 67, _, _, _, _, _⟩) rfl (fun K hK => ?_) ?_
      · go_simp
        refine hK.out _ _ ?_ (fun hHeld => ?_)
        · try dsimp only
          refine hS2.out _ ?_
          repeat (first | assumption | exact Upon.refl _ _ | refine Upon.drew ?_ | refine Upon.alloc ?_ _ | refine Upon.setCell (p := ⟨g, _, none⟩) ?_ (.inl (.inr rfl)) _)
        clear hK K
        (try simp only [Act.put, List.setIfInBounds_toArray, List.set_cons_zero, List.set_cons_succ])
        refine wpAnyH_ready (rs := [19]) (by kernel_rfl) (by simp) ?_
        refine AllReadyH.cons (o := ⟨some 74, _, _, _, _, _⟩) rfl (fun K hK => ?_) ?_
        · refine Rw.step_append typP (o := ⟨some 74, _, _, _, _, _⟩) (by rfl) _ _ (by rfl) (.slice pa pn pc) _ pts [(t, q)] All (by rfl) (by rfl) (hpm.out.new (by repeat (first | assumption | exact Upon.refl _ _ | refine Upon.drew ?_ | refine Upon.alloc ?_ _))) (by first | exact Rw.View.new (pview_one W t q) (by repeat (first | assumption | exact Upon.refl _ _ | refine Upon.drew ?_ | refine Upon.alloc ?_ _)) | exact Rw.View.new (pview_one W.drew t q) (by repeat (first | assumption | exact Upon.refl _ _ | refine Upon.drew ?_ | refine Upon.alloc ?_ _))) (by rw [List.length_singleton]; omega) (by rw [List.length_singleton]; omega) ?_
          intro v' x hown hg hb
          have hux : Upon (fun b => (Value.slice pa pn pc).ownBlock = some b) W x := Upon.grown (by repeat (first | assumption | exact Upon.refl _ _ | refine Upon.drew ?_ | refine Upon.alloc ?_ _)) hg (fun k hk => .inl hk)
          have hux2 : Upon (fun b => (Value.slice pa pn pc).ownBlock = some b ∨ b = g) W x := hux.mono fun _ _ h => .inl h
          obtain ⟨px, x1x, -, -, tfx⟩ := hS.out x hux
          obtain ⟨A8, c8, rfl, -, -⟩ := Rw.View.shape (show PMine x v' (pts ++ [(t, q)]) from hown).view
          refine hK.out _ _ ?_ (fun hHeld => ?_)
          · try dsimp only
            refine hS2.out _ ?_
            repeat (first | assumption | exact Upon.refl _ _ | refine Upon.drew ?_ | refine Upon.alloc ?_ _ | refine Upon.setCell (p := ⟨g, _, none⟩) ?_ (.inl (.inr rfl)) _)
          clear hK K
          (try simp only [Act.put, List.setIfInBounds_toArray, List.set_cons_zero, List.set_cons_succ])
          refine wpAnyH_take (i := 20) (oi := _) (v := ?_) rfl (by kernel_rfl) (by kernel_rfl) (by kernel_rfl) (fun _ _ _ h => h) (Or.inl ⟨by rfl, ?_⟩) (by assumption) ?_
          rotate_left
          · (intro w hSw; (try dsimp only at hSw); go_simp; (try with_reducible rfl))
          (try simp only [Act.put, List.setIfInBounds_toArray, List.set_cons_zero, List.set_cons_succ])
          refine wpAnyH_take (i := 21) (oi := _) (v := ?_) rfl (by kernel_rfl) (by kernel_rfl) (by kernel_rfl) (fun _ _ _ h => h) (Or.inl ⟨by rfl, ?_⟩) (by assumption) ?_
          rotate_left
          · (intro w hSw; (try dsimp only at hSw); go_simp; (try with_reducible rfl))
          (try simp only [Act.put, List.setIfInBounds_toArray, List.set_cons_zero, List.set_cons_succ])
          refine wpAnyH_ready (rs := [22]) (by kernel_rfl) (by simp) ?_
          refine AllReadyH.cons (o := ⟨none, _, _, _, _, _⟩) rfl (fun K hK => ?_) ?_
          · go_simp
            refine hK.out _ _ ?_ (fun hHeld => ?_)
            · try dsimp only
              refine hS2.out _ ?_
              repeat (first | assumption | exact Upon.refl _ _ | refine Upon.drew ?_ | refine Upon.alloc ?_ _ | refine Upon.setCell (p := ⟨g, _, none⟩) ?_ (.inl (.inr rfl)) _)
            clear hK K
            (try simp only [Act.put, List.setIfInBounds_toArray, List.set_cons_zero, List.set_cons_succ])
            refine wpAnyH_done (by kernel_rfl) ?_ _
            go_wp2_with fail
            go_meet
            exact ⟨_, _, _, _, rfl, Lib.hid (by repeat (first | assumption | exact Upon.refl _ _ | refine Upon.drew ?_ | refine Upon.alloc ?_ _)), Lib.hid hown, Lib.hid hg, Lib.hid hb⟩
          exact AllReadyH.nil
        exact AllReadyH.nil
      exact AllReadyH.nil
    exact AllReadyH.nil
  case rest =>
    obtain ⟨X, x, A8, c8, rfl, hX, hown, hg, hb⟩ := hcut
    have hux : Upon (fun b => (Value.slice pa pn pc).ownBlock = some b) W x := Upon.grown (hX.out.mono fun _ _ f => f.elim) hg.out (fun k hk => .inl hk)
    have hux2 : Upon (fun b => (Value.slice pa pn pc).ownBlock = some b ∨ b = g) W x := hux.mono fun _ _ h => .inl h
    obtain ⟨-, x1x, -, -, tfx⟩ := hS.out x hux
    have hL : (pts ++ [(t, q)]).length = pts.length + 1 := by simp
    replace hown := hown.out
    replace hb := hb.out
    replace hg := hg.out
    rw [hL] at hown hb
    obtain ⟨A', rs', hfin, hA1, hA2, hup⟩ := hgr.out _ x (hn3.out.trans hX.out) ⟨A8, pts.length + 1, c8⟩ hown hg hb
    have x2x : x.cell? ⟨g, i * 3 + 2, none⟩ = some (.int .i64 lst) := by rw [← x2, World.cell?, World.cell?, hux.block g (World.block_lt_of_cell? W _ x2) (fun e => (hne.out g e).2.1 rfl)]
    have tfx2 : x.frozen? ⟨g, i * 3 + 2, none⟩ = false := by rw [← hgf2.out, World.frozen?, World.frozen?, hux.block g (World.block_lt_of_cell? W _ x2) (fun e => (hne.out g e).2.1 rfl)]
    have c7 : (x.setCell ⟨g, i * 3 + 1, none⟩ (.slice A8 (pts.length + 1) c8)).cell? ⟨g, i * 3 + 2, none⟩ = some (.int .i64 lst) := World.set_other (by omega) x2x
    have f7 : (x.setCell ⟨g, i * 3 + 1, none⟩ (.slice A8 (pts.length + 1) c8)).frozen? ⟨g, i * 3 + 2, none⟩ = false := (World.frozen?_setCell x _ _ _).trans tfx2
    obtain ⟨p7, s7, -⟩ := hS2.out (x.setCell ⟨g, i * 3 + 1, none⟩ (.slice A8 (pts.length + 1) c8)) (Upon.setCell (p := ⟨g, i * 3 + 1, none⟩) hux2 (.inl (.inr rfl)) _)
    replace hfin := Lib.hid hfin
    replace hup := Lib.hid hup
    replace hA1 := Lib.hid hA1
    replace hA2 := Lib.hid hA2
    clear hown hg hb hux hux2 x1x tfx hL x2x tfx2 hgr hS hS2 hpm b0 x1 x2 s0 s1 s2 hgf x1a hF hC
    generalize x.setCell ⟨g, i * 3 + 1, none⟩ (.slice A8 (pts.length + 1) c8) = w7 at *
    go_wp2_with fail
    go_region
    all_goals
      go_wp2_with fail
      go_ret
      rw [← hadd2.out]
      first
      | exact ⟨rfl, ⟨A', R, u, rs', hfin.out, hA1.out, hA2.out, fun b hb => .inl hb⟩, hup.out⟩
      | exact ⟨rfl, ⟨A', R, u, rs', hfin.out.new (upon_drewN _ _ 1), hA1.out, hA2.out, fun b hb => .inl hb⟩, hup.out.drew⟩
end Hd
end Go.Proofs.YtfheehlfodoimaaGreat
end
