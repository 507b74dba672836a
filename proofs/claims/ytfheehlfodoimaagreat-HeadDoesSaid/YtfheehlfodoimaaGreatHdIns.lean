/- The program's head in memory (layer 13): a series more; a series with other points. -/
import Derived.Test.YtfheehlfodoimaaGreatHdClone
import Derived.Test.YtfheehlfodoimaaGreatPHd2
import Derived.Test.YtfheehlfodoimaaGreatPHd5
set_option maxRecDepth 100000
namespace Go.Proofs.YtfheehlfodoimaaGreat
open Go.RowKit Go.Sort
namespace Hd
open Bit Dsk Ob Dig Nm
set_option linter.unusedVariables false
theorem ne_ZP : (86 : TypeId) ≠ 81 := by decide
theorem ne_ZL : (86 : TypeId) ≠ 72 := by decide
theorem ne_PL : (81 : TypeId) ≠ 72 := by decide
theorem ne_DP : (50 : TypeId) ≠ 81 := by decide
theorem ne_DS : (50 : TypeId) ≠ 86 := by decide
section
variable {A R : Nat → Prop} {p b : Nat} {N : Nms} {bs : List Nat} {rs : List RR} {h : H}
set_option maxHeartbeats 1600000 in
theorem HeadP.chg {w x : World} (hh : HeadP w A R p b N bs rs h) {i : Nat} (hi : i < h.length) (hb : i < bs.length) (hr : i < rs.length) {t' : Rw.Sl} {m : List Pt} {tl : Int}
    (hup : Upon (fun k => k = bs[i] ∨ rs[i].pts.v.ownBlock = some k) w x) (hblk : Rw.Blk3 86 bs[i] rs[i].lab.v t'.v (.int .i64 tl) x) (hm : PMine x t'.v m)
    (hown : ∀ k, t'.v.ownBlock = some k → rs[i].pts.v.ownBlock = some k ∨ w.heap.size ≤ k) (hinv : Inv (h.set i ⟨h[i].lab, m, tl⟩)) :
    ∃ A', HeadP x A' R p b N bs (rs.set i ⟨rs[i].lab, t', tl⟩) (h.set i ⟨h[i].lab, m, tl⟩) ∧ (∀ k, A k → A' k) ∧ (∀ k, A' k → A k ∨ w.heap.size ≤ k) ∧ Upon A w x := by
  have hlr := hh.rows.len
  have hsA : A bs[i] := hh.sA _ (List.getElem_mem hb)
  have hpA : ∀ k, rs[i].pts.v.ownBlock = some k → A k := hh.rows.own i hr
  have hupA : Upon A w x := hup.mono fun k _ hk => hk.elim (fun e => e ▸ hsA) (hpA k)
  have hptT : ∀ k (k1 : k < rs.length) g, rs[k].pts.v.ownBlock = some g → ∃ cs, w.heap[g]? = some (.cells cs 81 (0, 0)) := fun k k1 g hg => (hh.rows.pts k k1 (by omega)).typ hg
  have hser : ∀ k (k1 : k < bs.length), ∃ cs, w.heap[bs[k]]? = some (.cells cs 86 (0, 0)) := fun k k1 => ⟨_, hh.ser k k1 (by have := hh.blen; omega)⟩
  have hnp : ¬ (p = bs[i] ∨ rs[i].pts.v.ownBlock = some p) := fun e => by
    rcases e with e | e
    · obtain ⟨cs, h2⟩ := hser i hb; exact typ_ne ne_DS hh.box h2 e
    · obtain ⟨cs, h2⟩ := hptT i hr p e; exact typ_ne ne_DP hh.box h2 rfl
  have hnb : ¬ (b = bs[i] ∨ rs[i].pts.v.ownBlock = some b) := fun e => by
    rcases e with e | e
    · obtain ⟨cs, h2⟩ := hser i hb; exact hh.map.ne h2 e.symm
    · obtain ⟨cs, h2⟩ := hptT i hr b e; exact hh.map.ne h2 rfl
  have hrx := hh.rows.setPts hi (w' := x) (A' := fun k => A k ∨ t'.v.ownBlock = some k) (R := R) (t := t') (m := m)
    (fun k k1 k2 => Rw.View.upon (hh.rows.lab k k1 k2) hup (fun g hg e => hh.dis g (e.elim (fun e => e ▸ hsA) (hpA g)) hg))
    (fun k k1 k2 hk => Rw.Mine.upon (hh.rows.pts k k1 k2) hup (fun g hg e => by
      rcases e with e | e
      · obtain ⟨cs, h2⟩ := hser i hb
        obtain ⟨cs2, h3⟩ := hptT k k1 g hg
        exact typ_ne ne_ZP h2 h3 e.symm
      · exact hh.rows.apart i k hr k1 g (fun e => hk e.symm) e hg))
    (fun k k1 g hk hg => .inl (hh.rows.own k k1 g hg)) hm (fun g hg => .inr hg)
    (fun g hg k k1 hk e => by
      rcases hown g hg with h1 | h1
      · exact hh.rows.apart i k hr k1 g (fun e => hk e.symm) h1 e
      · have := Rw.Mine.lt (hh.rows.pts k k1 (by omega)) e; omega) hr
  have hfin := hrx.setLast (i := i) (by simpa using hi) tl (by simpa using hr)
  simp only [List.getElem_set_self, List.set_set] at hfin
  have hlabs : labs (h.set i ⟨h[i].lab, m, tl⟩) = labs h := labs_set hi rfl
  refine ⟨fun k => A k ∨ t'.v.ownBlock = some k, ⟨(hup.block p (Array.getElem?_eq_some_iff.1 hh.box).1 hnp).trans hh.box, hh.map.kept (hup.block b hh.map.lt hnb), hh.rise, by rw [hlabs]; exact hh.nam, by simpa using hh.blen, ?_, hh.nod, hfin, .inl hh.pA, .inl hh.bA, fun s hs => .inl (hh.sA s hs), ?_, ?_, hinv⟩, fun k hk => .inl hk, ?_, hupA⟩
  · intro k k1 k2
    have k2' : k < rs.length := by simpa using k2
    by_cases e : k = i
    · subst e; simp only [List.getElem_set_self]; exact hblk
    · rw [List.getElem_set_ne (fun e2 => e e2.symm)]
      refine (hh.ser k k1 k2').upon hup fun e2 => ?_
      rcases e2 with e2 | e2
      · rcases Nat.lt_or_gt_of_ne e with e3 | e3
        · exact List.pairwise_iff_getElem.1 hh.nod k i k1 hb e3 e2
        · exact List.pairwise_iff_getElem.1 hh.nod i k hb k1 e3 e2.symm
      · obtain ⟨cs, h2⟩ := hser k k1
        obtain ⟨cs2, h3⟩ := hptT i hr _ e2
        exact typ_ne ne_ZP h2 h3 rfl
  · intro k hk hR
    rcases hk with hk | hk
    · exact hh.dis k hk hR
    · rcases hown k hk with h1 | h1
      · exact hh.dis k (hpA k h1) hR
      · have := hh.lt k (.inr hR); omega
  · intro k hk
    have q := hup.size
    rcases hk with (hk | hk) | hk
    · have := hh.lt k (.inl hk); omega
    · exact Rw.Mine.lt hm hk
    · have := hh.lt k (.inr hk); omega
  · intro k hk
    rcases hk with hk | hk
    · exact .inl hk
    · exact (hown k hk).imp (hpA k) id
set_option maxHeartbeats 1600000 in
theorem HeadP.insert {w x x' : World} (hh : HeadP w A R p b N bs rs h) (hx : New0 w x) {i : Nat} (hi : i ≤ h.length) {s : Nat} {t : RR} {r : Row}
    (hblk : Rw.Blk3 86 s t.lab.v t.pts.v (.int .i64 t.last) x) (hsn : w.heap.size ≤ s) (hlab : Lb.Mine x t.lab.v r.lab) (hln : ∀ k, t.lab.v.ownBlock = some k → w.heap.size ≤ k)
    (hpts : PMine x t.pts.v r.pts) (hpn : ∀ k, t.pts.v.ownBlock = some k → w.heap.size ≤ k) (hlast : t.last = r.last) (hno : lookN N (Lb.encB r.lab) = none)
    (hmap : MapS x' b (putN N (Lb.encB r.lab) (s : Int))) (hg : x.grownBy x' (some b)) (hinv : Inv (h.take i ++ [r] ++ h.drop i)) :
    ∃ A' R', HeadP x' A' R' p b (putN N (Lb.encB r.lab) (s : Int)) (bs.take i ++ [s] ++ bs.drop i) (rs.take i ++ [t] ++ rs.drop i) (h.take i ++ [r] ++ h.drop i) ∧ (∀ k, A k → A' k) ∧ (∀ k, A' k → A k ∨ w.heap.size ≤ k) ∧ (∀ k, R' k → R k ∨ w.heap.size ≤ k) ∧ Upon A w x' := by
  have hhx := hh.new hx
  have hb1 := hh.blen
  have hr1 := hh.rows.len
  have hup : Upon (fun k => k = b) x x' := Upon.grown (Upon.refl _ x) hg fun k hk => .inl (by injection hk with hk; exact hk.symm)
  have hupA : Upon A w x' := Upon.grown (hx.mono fun _ _ f => f.elim) hg fun k hk => .inl (by injection hk with hk; rw [← hk]; exact hh.bA)
  have hcb : ∀ (g : Nat) (cs : Array Value) (T : TypeId), x.heap[g]? = some (.cells cs T (0, 0)) → ¬ g = b := fun g cs T hc => hhx.map.ne hc
  -- the rows, at x
  have hrows0 : RowsR x (fun k => A k ∨ k = s ∨ t.pts.v.ownBlock = some k) (fun k => R k ∨ t.lab.v.ownBlock = some k) rs h := hhx.rows.mono (fun k _ hk => .inl hk) (fun k _ hk => .inl hk)
  have hlv : Lb.View x (fun k => R k ∨ t.lab.v.ownBlock = some k) t.lab.v r.lab := Rw.View.mono (Rw.Mine.view hlab) (fun k _ hk => .inr hk)
  have hold : ∀ k (k1 : k < rs.length) g, rs[k].pts.v.ownBlock = some g → g < w.heap.size := fun k k1 g e => Rw.Mine.lt (hh.rows.pts k k1 (by omega)) e
  have hrows1 := ((hrows0.take i).snoc (r := t) (x := r) hlv hpts hlast (fun k hk => .inr (.inr hk)) (fun g hg k hk e => by
    rw [List.getElem_take] at e
    rw [List.length_take] at hk
    have := hold k (by omega) g e
    have := hpn g hg
    omega)).append (hrows0.drop i) (fun a c k1 k2 g hb he => by
    rw [List.getElem_drop] at he
    rw [List.length_drop] at k2
    by_cases ha : a < (rs.take i).length
    · rw [List.getElem_append_left ha, List.getElem_take] at hb
      have ha2 := ha
      rw [List.length_take] at ha2
      exact hrows0.apart a (i + c) (by omega) (by omega) g (by omega) hb he
    · rw [List.getElem_append_right (by omega)] at hb
      simp only [List.getElem_singleton] at hb
      have := hold (i + c) (by omega) g he
      have := hpn g hb
      omega)
  have hrows2 : RowsR x' (fun k => A k ∨ k = s ∨ t.pts.v.ownBlock = some k) (fun k => R k ∨ t.lab.v.ownBlock = some k) (rs.take i ++ [t] ++ rs.drop i) (h.take i ++ [r] ++ h.drop i) :=
    ⟨hrows1.len, fun k k1 k2 => Rw.View.upon (hrows1.lab k k1 k2) hup (fun g hk e => by
      rcases hk with hk | hk
      · exact hh.dis _ hh.bA (e ▸ hk)
      · have := hln _ hk; have := hh.map.lt; omega), fun k k1 k2 => Rw.Mine.upon (hrows1.pts k k1 k2) hup (fun g hg => by
        obtain ⟨cs, hc⟩ := (hrows1.pts k k1 k2).typ hg
        exact hcb g cs _ hc), hrows1.last, hrows1.own, hrows1.apart⟩
  have hs1 : s ∉ bs := fun hm => by have := hh.lt s (.inl (hh.sA s hm)); omega
  have hlabs : labs (h.take i ++ [r] ++ h.drop i) = (labs h).take i ++ r.lab :: (labs h).drop i := by simp [labs]
  have hbs : bs.take i ++ [s] ++ bs.drop i = bs.take i ++ s :: bs.drop i := by simp
  refine ⟨_, _, ⟨(hup.block p (Array.getElem?_eq_some_iff.1 hhx.box).1 (hcb p _ _ hhx.box)).trans hhx.box, hmap, hh.rise.put _ _, ?_, ?_, ?_, ?_, hrows2, .inl hh.pA, .inl hh.bA, ?_, ?_, ?_, hinv⟩, fun k hk => .inl hk, ?_, ?_, hupA⟩
  · rw [hlabs, hbs]
    exact (put_perm hno _).trans (((hh.nam.cons _)).trans (names_put (labs h) bs i r.lab s (by rw [hb1]; simp [labs])).symm)
  · simp; omega
  · intro k k1 k2
    have hX : ∀ j (j1 : j < bs.length) (j2 : j < rs.length), Rw.Blk3 86 bs[j] rs[j].lab.v rs[j].pts.v (.int .i64 rs[j].last) x' := fun j j1 j2 => (hhx.ser j j1 j2).upon hup (hcb _ _ _ (hhx.ser j j1 j2))
    by_cases hk : k < i
    · have e1 : (bs.take i ++ [s] ++ bs.drop i)[k] = bs[k]'(by omega) := by
        rw [List.getElem_append_left (by simp; omega), List.getElem_append_left (by simp; omega), List.getElem_take]
      have e2 : (rs.take i ++ [t] ++ rs.drop i)[k] = rs[k]'(by omega) := by
        rw [List.getElem_append_left (by simp; omega), List.getElem_append_left (by simp; omega), List.getElem_take]
      rw [e1, e2]
      exact hX k _ _
    · by_cases hk2 : k = i
      · have e1 : (bs.take i ++ [s] ++ bs.drop i)[k] = s := by
          rw [List.getElem_append_left (by simp; omega), List.getElem_append_right (by simp; omega)]
          simp
        have e2 : (rs.take i ++ [t] ++ rs.drop i)[k] = t := by
          rw [List.getElem_append_left (by simp; omega), List.getElem_append_right (by simp; omega)]
          simp
        rw [e1, e2]
        exact hblk.upon hup (hcb s _ _ hblk)
      · have l1 : k < bs.length + 1 := by simp at k1; omega
        have e1 : (bs.take i ++ [s] ++ bs.drop i)[k] = bs[k - 1]'(by omega) := by
          rw [List.getElem_append_right (by simp; omega), List.getElem_drop]
          congr 1
          simp; omega
        have e2 : (rs.take i ++ [t] ++ rs.drop i)[k] = rs[k - 1]'(by omega) := by
          rw [List.getElem_append_right (by simp; omega), List.getElem_drop]
          congr 1
          simp; omega
        rw [e1, e2]
        exact hX (k - 1) _ _
  · rw [hbs]
    have hp : (bs.take i ++ s :: bs.drop i).Perm (s :: bs) := by
      have := List.perm_middle (a := s) (l₁ := bs.take i) (l₂ := bs.drop i)
      rwa [List.take_append_drop] at this
    exact hp.nodup_iff.2 (List.nodup_cons.2 ⟨hs1, hh.nod⟩)
  · intro k hk
    rw [hbs] at hk
    rcases List.mem_append.1 hk with hk | hk
    · exact .inl (hh.sA k (List.mem_of_mem_take hk))
    · rcases List.mem_cons.1 hk with rfl | hk
      · exact .inr (.inl rfl)
      · exact .inl (hh.sA k (List.mem_of_mem_drop hk))
  · intro k hk hR
    rcases hR with hR | hR
    · have h1 := hh.lt k (.inr hR)
      rcases hk with hk | rfl | hk
      · exact hh.dis k hk hR
      · omega
      · have := hpn k hk; omega
    · have h1 := hln k hR
      obtain ⟨cs, h2⟩ := Rw.Mine.typ hlab hR
      rcases hk with hk | rfl | hk
      · have := hh.lt k (.inl hk); omega
      · exact typ_ne ne_ZL hblk h2 rfl
      · obtain ⟨cs2, h3⟩ := Rw.Mine.typ hpts hk
        exact typ_ne ne_PL h3 h2 rfl
  · intro k hk
    have q1 := hx.size
    have q2 := hup.size
    rcases hk with (hk | rfl | hk) | (hk | hk)
    · have := hh.lt k (.inl hk); omega
    · have := hblk.lt; omega
    · have := Rw.Mine.lt hpts hk; omega
    · have := hh.lt k (.inr hk); omega
    · have := Rw.Mine.lt hlab hk; omega
  · intro k hk
    rcases hk with hk | rfl | hk
    · exact .inl hk
    · exact .inr hsn
    · exact .inr (hpn k hk)
  · intro k hk
    exact hk.imp id (hln k)
end
end Hd
end Go.Proofs.YtfheehlfodoimaaGreat
