/- The program's near (layer 14): among which rows those that are asked for are. -/
import Derived.Test.YtklgdllllboipaaPoIdx
import Derived.Test.YtklgdllllboipaaPMt2
set_option maxRecDepth 100000
namespace Go.Proofs.Ytklgdllllboipaa
open Go.RowKit Go.Sort
namespace Po
open Bit Dsk Ob Dig
set_option linter.unusedVariables false
/-- Is row i asked for? -/
def asked (rs : List (List Lb.Pr)) (l : List Mt.M) (i : Nat) : Bool := Mt.is l (rs.getD i [])
theorem asked_at {rs : List (List Lb.Pr)} {l : List Mt.M} {i : Nat} (h : i < rs.length) : asked rs l i = Mt.is l rs[i] := by
  unfold asked; rw [List.getD_eq_getElem?_getD, List.getElem?_eq_getElem h]; rfl
/-- A list of rows among which those that are asked for are. -/
structure Nr (rs : List (List Lb.Pr)) (l : List Mt.M) (N : List Int) : Prop where
  up : Up N
  row : ∀ x ∈ N, ∃ i, i < rs.length ∧ x = (i : Int)
  all : ∀ i, i < rs.length → asked rs l i = true → (i : Int) ∈ N
  len : N.length ≤ rs.length
theorem get_mem : ∀ {a : List Lb.Pr} {n v : ByteArray}, Lb.get a n = v → v.size ≠ 0 → (n, v) ∈ a
  | [], n, v, h, hv => by
    rw [Lb.get] at h
    rw [← h] at hv
    exact absurd rfl hv
  | p :: a, n, v, h, hv => by
    rw [Lb.get] at h
    split at h
    · rename_i e
      rw [← e, ← h]
      exact List.mem_cons_self ..
    · exact List.mem_cons_of_mem _ (get_mem h hv)
theorem Nr.pair {rs : List (List Lb.Pr)} {l : List Mt.M} {n v : ByteArray} (hm : ((1 : Int), n, v) ∈ l) (hv : v.size ≠ 0) : Nr rs l (sel (has rs (n, v)) rs.length) := by
  refine ⟨sel_up _ _, fun x hx => ?_, fun i hi ha => mem_sel.2 ⟨i, hi, ?_, rfl⟩, sel_len _ _⟩
  · obtain ⟨i, h1, -, h2⟩ := mem_sel.1 hx
    exact ⟨i, h1, h2⟩
  · rw [asked_at hi] at ha
    rw [has_at hi, inR_yes]
    have h1 : Mt.all l rs[i] = true := by
      unfold Mt.is at ha
      simp only [Bool.and_eq_true] at ha
      exact ha.2
    have h2 := List.all_eq_true.1 h1 _ hm
    simp only [Mt.holds_1, decide_eq_true_eq] at h2
    exact get_mem h2 hv
theorem Nr.whole (rs : List (List Lb.Pr)) (l : List Mt.M) : Nr rs l (sel (fun _ => true) rs.length) :=
  ⟨sel_up _ _, fun x hx => (sel_all _ x).1 hx, fun i hi _ => (sel_all _ _).2 ⟨i, hi, rfl⟩, sel_len _ _⟩
theorem Nr.both {rs : List (List Lb.Pr)} {l : List Mt.M} {N M r : List Int} (h : Nr rs l N) (k : Nr rs l M) (hup : Up r) (hm : ∀ x, x ∈ r ↔ x ∈ N ∧ x ∈ M) (hl : r.length ≤ N.length) : Nr rs l r :=
  ⟨hup, fun x hx => h.row x ((hm x).1 hx).1, fun i hi ha => (hm _).2 ⟨h.all i hi ha, k.all i hi ha⟩, Nat.le_trans hl h.len⟩
/-- The lists that are gathered: a row of the call's own of the index's lists. -/
structure Gth (w0 w : World) (p : Nat) (x : Value) (rs : List (List Lb.Pr)) (l : List Mt.M) (u : Value) (ss : List Rw.Sl) : Prop where
  mine : Rw.Mine layS 22 w u ss
  base : ∀ g, u.ownBlock = some g → w0.heap.size ≤ g
  els : ∀ s ∈ ss, ∃ N, IMine w s.v N ∧ (∀ g, s.v.ownBlock = some g → p < g) ∧ Nr rs l N
  idx : Idx w p x rs
  up : Upon (fun k => k = p) w0 w
theorem Gth.none {w : World} {p : Nat} {x : Value} {rs : List (List Lb.Pr)} (l : List Mt.M) (h : Idx w p x rs) : Gth w w p x rs l nilS [] := ⟨Rw.Mine.nil _ _ _, fun g h => (by cases h), fun s hs => absurd hs (by simp), h, Upon.refl _ _⟩
theorem Gth.turn {w0 w w' : World} {p : Nat} {x : Value} {rs : List (List Lb.Pr)} {l : List Mt.M} {u : Value} {ss : List Rw.Sl} (h : Gth w0 w p x rs l u ss) (hp : p < w0.heap.size) (hI : Idx w' p x rs) (hu : Upon (fun k => k = p) w w') : Gth w0 w' p x rs l u ss :=
  ⟨h.mine.upon hu (fun b hb e => by have := h.base b hb; omega), h.base, fun s hs => by
    obtain ⟨N, k1, k2, k3⟩ := h.els s hs
    exact ⟨N, k1.upon hu (fun b hb e => by have := k2 b hb; omega), k2, k3⟩, hI, h.up.trans hu⟩
theorem Gth.new {w0 w w' : World} {p : Nat} {x : Value} {rs : List (List Lb.Pr)} {l : List Mt.M} {u : Value} {ss : List Rw.Sl} (h : Gth w0 w p x rs l u ss) (hp : p < w0.heap.size) (hu : New0 w w') : Gth w0 w' p x rs l u ss := h.turn hp (h.idx.new hu) (hu.mono fun _ _ f => f.elim)
theorem type_ne {w : World} {T T' : TypeId} (hT : T ≠ T') {g g' : Nat} {cs cs' : Array Value} (h1 : w.heap[g]? = some (.cells cs T (0, 0))) (h2 : w.heap[g']? = some (.cells cs' T' (0, 0))) : g ≠ g' := fun e => by
  subst e
  rw [h1] at h2
  injection h2 with h2
  injection h2 with _ h2 _
  exact hT h2
/-- A list more. -/
theorem Gth.app {w0 w w' : World} {p : Nat} {x : Value} {rs : List (List Lb.Pr)} {l : List Mt.M} {u u' : Value} {ss : List Rw.Sl} {s : Rw.Sl} (h : Gth w0 w p x rs l u ss) (hp : p < w0.heap.size) (hV : PView w0 (fun b => p < b) x rs)
    (hs : ∃ N, IMine w s.v N ∧ (∀ g, s.v.ownBlock = some g → p < g) ∧ Nr rs l N) (hown : Rw.Mine layS 22 w' u' (ss ++ [s])) (hg : w.grownBy w' u.ownBlock) (hbl : u'.ownBlock = u.ownBlock ∨ u'.ownBlock = some w.heap.size) : Gth w0 w' p x rs l u' (ss ++ [s]) := by
  have hu : Upon (fun k => u.ownBlock = some k) w w' := Upon.grown (Upon.refl _ w) hg (fun k hk => .inl hk)
  have hup : Upon (fun k => k = p) w0 w' := Upon.grown h.up hg (fun k hk => .inr (h.base k hk))
  have hne : ∀ (v : Value) (N : List Int), IMine w v N → ∀ g, v.ownBlock = some g → ¬ u.ownBlock = some g := fun v N hv g hg e => by
    obtain ⟨cs, e1⟩ := Rw.Mine.typ h.mine e
    obtain ⟨cs2, e2⟩ := Rw.Mine.typ hv hg
    exact type_ne (by decide) e1 e2 rfl
  have hpu : ¬ u.ownBlock = some p := fun e => by have := h.base p e; omega
  have key : ∀ (t : Rw.Sl), (∃ N, IMine w t.v N ∧ (∀ g, t.v.ownBlock = some g → p < g) ∧ Nr rs l N) → ∃ N, IMine w' t.v N ∧ (∀ g, t.v.ownBlock = some g → p < g) ∧ Nr rs l N := fun t ⟨N, k1, k2, k3⟩ => ⟨N, k1.upon hu (fun g hg => hne _ _ k1 g hg), k2, k3⟩
  refine ⟨hown, fun g hk => ?_, fun t ht => ?_, ⟨Rw.DView.upon hV hup (fun b h1 h2 => by omega), h.idx.2.imp (fun k => k.upon hu hpu) fun ⟨b, f, k1, k2, k3, k4⟩ => ⟨b, f, k1, k2.upon hu hpu, k3.kept (hu.block b k3.lt (fun e => ?_)), fun q => ⟨(k4 q).1.upon hu (fun g hg => hne _ _ (k4 q).1 g hg), (k4 q).2⟩⟩⟩, hup⟩
  · rcases hbl with hb | hb
    · exact h.base g (hb.symm.trans hk)
    · rw [hb] at hk
      injection hk with hk
      have := h.up.size
      omega
  · rcases List.mem_append.1 ht with ht | ht
    · exact key t (h.els t ht)
    · rw [List.mem_singleton.1 ht]; exact key s hs
  · obtain ⟨cs, e1⟩ := Rw.Mine.typ h.mine e
    exact k3.ne e1 rfl
end Po
end Go.Proofs.Ytklgdllllboipaa
