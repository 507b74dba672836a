/- The document's own Split (layer 9). -/
import Derived.Test.YtadlkfdjdjaakaaDoorCkRef
set_option maxRecDepth 100000
namespace Go.Proofs.YtadlkfdjdjaakaaDoor
open Go.RowKit Go.Sort
namespace Ck
open Bit Dsk Ob Dig
set_option linter.unusedVariables false

/-- u reads as the parts of l. -/
def Parts (w : World) (u : Value) (l : List Pt) : Prop :=
  ∃ A c, u = .slice A (nparts l) c ∧ nparts l ≤ c ∧ c ≤ maxLen ∧ (0 < nparts l → ∃ b off, A = some ⟨b, off, none⟩ ∧ ∀ i, i < nparts l → ∃ v, w.cell? ⟨b, off + i, none⟩ = some v ∧ View w All v (part l i))
theorem Parts.new {w w' : World} {u : Value} {l : List Pt} (h : Parts w u l) (hu : New0 w w') : Parts w' u l :=
  let ⟨A, c, h1, h2, h3, h4⟩ := h
  ⟨A, c, h1, h2, h3, fun hp => let ⟨b, off, k1, k2⟩ := h4 hp; ⟨b, off, k1, fun i hi => let ⟨v, m1, m2⟩ := k2 i hi; ⟨v, hu.cell m1, m2.new hu⟩⟩⟩
theorem infoRow : (Tryd.prog.info? 22).map (fun i => (i.zero, i.size, i.bytes)) = some (some (.slice none 0 0), 1, 24) := by kernel_rfl
/-- A row of the call's own, of parts so far. -/
structure Outs (w0 w : World) (u : Value) (l : List Pt) (j : Nat) (vs : List Value) : Prop where
  len : vs.length = j
  row : w.ownsRow 0 22 1 u j vs
  mine : ∀ g, u.ownBlock = some g → w0.heap.size ≤ g
  view : ∀ i v, vs[i]? = some v → View w (fun b => u.ownBlock ≠ some b) v (part l i)
  new : New0 w0 w
theorem nparts_iff (l : List Pt) (j : Nat) : 64 * j < l.length ↔ j < nparts l := by unfold nparts; omega
theorem Outs.start (w : World) (l : List Pt) : Outs w w (.slice none 0 0) l 0 [] :=
  { len := rfl, row := ⟨rfl, .inl ⟨rfl, rfl⟩⟩, mine := fun g h => (by cases h), view := fun i v h => (by simp at h), new := Upon.refl _ _ }
theorem Outs.step {w0 wr w3 w' : World} {u v' : Value} {l : List Pt} {j g cap : Nat} {vs : List Value} {S' : Nat → Prop} (h : Outs w0 wr u l j vs) (hn : New0 wr w3) (hv : View w3 S' v' (part l j)) (hS : ∀ b, S' b → u.ownBlock ≠ some b)
    (hrow : w'.ownsRow 0 22 1 (.slice (some ⟨g, 0, none⟩) (j + 1) cap) (j + 1) (vs ++ [v'])) (hg : w3.grownBy w' u.ownBlock) (hgb : u.ownBlock = some g ∨ g = w3.heap.size) :
    Outs w0 w' (.slice (some ⟨g, 0, none⟩) (j + 1) cap) l (j + 1) (vs ++ [v']) := by
  have hul : ∀ b, u.ownBlock = some b → b < wr.heap.size := fun b hb => (World.ownsRow.lt h.row b hb).2
  have hup : Upon (fun b => u.ownBlock = some b) w3 w' := Upon.grown (Upon.refl _ w3) hg (fun k hk => .inl hk)
  have hsz : w0.heap.size ≤ wr.heap.size := h.new.size
  have hsz3 : wr.heap.size ≤ w3.heap.size := hn.size
  have far : ∀ b, b < w3.heap.size → u.ownBlock ≠ some b → (Value.slice (some ⟨g, 0, none⟩) (j + 1) cap).ownBlock ≠ some b := fun b hb hne e => by
    have e' : g = b := by simpa [Value.ownBlock] using e
    rcases hgb with h1 | h1
    · exact hne (by rw [h1, e'])
    · omega
  refine { len := by simp [h.len], row := hrow, mine := fun k hk => ?_, view := fun i v hi => ?_, new := (h.new.trans hn).grown hg (fun k hk => .inr (h.mine k hk)) }
  · have e' : g = k := by simpa [Value.ownBlock] using hk
    rcases hgb with h1 | h1
    · exact h.mine k (by rw [h1, e'])
    · omega
  · have hlen := h.len
    by_cases hij : i < vs.length
    · rw [List.getElem?_append_left hij] at hi
      have h1 := (h.view i v hi).new hn
      have h2 := h1.mono (S' := fun b => u.ownBlock ≠ some b ∧ (Value.slice (some ⟨g, 0, none⟩) (j + 1) cap).ownBlock ≠ some b) (fun b hb hs => ⟨hs, far b hb hs⟩)
      exact (h2.upon hup (fun b hb => hb.1)).mono (fun b _ hs => hs.2)
    · rw [List.getElem?_append_right (by omega)] at hi
      have e : i - vs.length = 0 := by
        have := (List.getElem?_eq_some_iff.1 hi).1
        simp at this; omega
      rw [e] at hi
      simp at hi
      subst hi
      have e2 : i = j := by omega
      subst e2
      have h2 := hv.mono (S' := fun b => u.ownBlock ≠ some b ∧ (Value.slice (some ⟨g, 0, none⟩) (i + 1) cap).ownBlock ≠ some b) (fun b hb hs => ⟨hS b hs, far b hb (hS b hs)⟩)
      exact (h2.upon hup (fun b hb => hb.1)).mono (fun b _ hs => hs.2)
theorem Outs.parts {w0 w : World} {u : Value} {l : List Pt} {j : Nat} {vs : List Value} (h : Outs w0 w u l j vs) (hj : j = nparts l) : Parts w u l := by
  subst hj
  have hcells := fun g => World.ownsRow.cells h.row (g := g)
  rcases h.row.2 with ⟨hv, h0⟩ | ⟨gb, cap, cur, hv, hb, hg, hnc, hcm, _⟩
  · exact ⟨none, 0, by rw [hv, h0], by omega, Nat.zero_le _, fun hp => by omega⟩
  · refine ⟨_, cap, hv, hnc, hcm, fun _ => ⟨gb, 0, rfl, fun i hi => ?_⟩⟩
    have hil : i < vs.length := by rw [h.len]; exact hi
    have k1 := hcells gb (by rw [hv]; rfl) i vs[i] (List.getElem?_eq_getElem hil)
    rw [Arg.addr_plain] at k1
    exact ⟨_, k1, (h.view i _ (List.getElem?_eq_getElem hil)).all⟩
theorem View.part {w : World} {S : Nat → Prop} {b off c : Nat} {l : List Pt} (h : View w S (.slice (some ⟨b, off, none⟩) l.length c) l) {i j e : Nat} (hi : i = 64 * j) (hj : j < nparts l) (he : e = min l.length (i + 64)) :
    View w S (.slice (some ⟨b, off + i * 2, none⟩) (e - i) (c - i)) (part l j) := by
  obtain ⟨A, c', h1, h2, h3, h4⟩ := h
  injection h1 with h1 _ h1c
  subst h1 h1c
  have hlt : i < l.length := by rw [hi]; exact (nparts_iff l j).2 hj
  obtain ⟨b', off', k1, k2, k3⟩ := h4 (by omega)
  injection k1 with k1
  injection k1 with e1 e2
  subst e1 e2
  have hpl : (Ck.part l j).length = e - i := by unfold Ck.part; rw [List.length_take, List.length_drop]; omega
  refine ⟨_, c - i, by rw [hpl], by omega, by omega, fun _ => ⟨b, off + i * 2, rfl, k2, fun k hk => ?_⟩⟩
  have hk2 : i + k < l.length := by omega
  have e : (Ck.part l j)[k] = l[i + k] := by
    apply Option.some.inj
    rw [← List.getElem?_eq_getElem hk, ← List.getElem?_eq_getElem hk2]
    show (List.take 64 (List.drop (64 * j) l))[k]? = _
    rw [List.getElem?_take_of_lt (by omega), List.getElem?_drop]
    congr 1; omega
  rw [e, show off + i * 2 + k * 2 = off + (i + k) * 2 by omega]
  exact k3 (i + k) hk2
set_option maxHeartbeats 6400000 in
theorem refsplit_any (w : World) (S : Nat → Prop) (v : Value) (l : List Pt) (hv : View w S v l) (hn : l.length ≤ 500) :
    Calls Tryd.prog 10 #[v] w fun e w' => ∃ u, e = .returned u ∧ Parts w' u l ∧ New0 w w' := by
  have hv2 := Lib.hid hv
  obtain ⟨A, c, rfl, hc1, hc2, hA⟩ := hv
  replace hA : Hid (0 < l.length → ∃ b off, A = some ⟨b, off, none⟩) := Lib.hid (fun h => let ⟨b, off, h1, _⟩ := hA h; ⟨b, off, h1⟩)
  obtain ⟨i0, hi, hz0, hz1, hz2⟩ := info_parts infoRow
  go_enter Tryd.func10, Tryd.ntmps10
  go_wp2_with fail
  go_loopw [3, 4] (fun u ov wr => ∃ (j i : Nat) (vs : List Value), ov = .int .i64 (i : Int) ∧ Hid (i = 64 * j) ∧ Hid (j ≤ nparts l) ∧ Hid (Outs w wr u l j vs)) (fun _ ov _ => 600 - (intOf ov).toNat)
  case atStart => exact ⟨0, 0, [], rfl, Lib.hid rfl, Lib.hid (Nat.zero_le _), Lib.hid (Outs.start w l)⟩
  case round =>
    obtain ⟨j, i, vs, rfl, hi', hj, ho⟩ := hrel
    by_cases hlt : i < l.length
    · have hjn : Hid (j < nparts l) := Lib.hid ((nparts_iff l j).1 (by have := hi'.out; omega))
      obtain ⟨b, off, rfl⟩ := hA.out (by omega)
      obtain ⟨e, he⟩ : ∃ e, e = min l.length (i + 64) := ⟨_, rfl⟩
      have he1 : i < e ∧ e ≤ l.length ∧ e ≤ i + 64 := by omega
      have dm : min (l.length : Int) ((i : Int) + 64) = (e : Int) := by omega
      have hvp := Lib.hid (((hv2.out.part hi'.out hjn.out he).new ho.out.new).new ((Upon.refl _ wr).alloc (.cells #[] 36 (0, 0))))
      have hpl : (part l j).length ≤ 64 := (part_len hjn.out).2
      replace he := Lib.hid he
      obtain ⟨he1, he2, he3⟩ := he1
      clear hA hv2
      go_wp2_with (at_builtin; refine wpList_append_pts rfl _ _ rfl _ _ [] (part l j) S rfl rfl (OwnPts.empty (cell_new wr _)) hvp.out (by rw [List.length_nil]; omega) ?_)
      intro v' w2 hown hg hb
      have hu2 : New0 wr w2 := Upon.grown ((Upon.refl (fun _ => False) wr).alloc _) hg (fun k hk => .inr (by
        have hk' : wr.heap.size = k := by simpa [Value.ownBlock] using hk
        omega))
      have hmine : Hid (∀ g, v'.ownBlock = some g → wr.heap.size ≤ g) := Lib.hid fun g hk => by
        rw [hk] at hb
        rcases hb with hb | hb
        · have : g = wr.heap.size := by simpa [Value.ownBlock] using hb
          omega
        · have : g = wr.heap.size + 1 := by simpa using hb
          omega
      obtain ⟨A', c', hv', -, -⟩ := hown.view.shape
      have hall : Hid (∀ o, New0 wr (w2.alloc o)) := Lib.hid fun o => hu2.alloc o
      have hrow := Lib.hid (fun o => ownsRow_kept ho.out.row (fun b hb => (hall.out o).block b (World.ownsRow.lt ho.out.row b hb).2 fun f => f))
      have hstep := Lib.hid (fun o w' g cap (h1 : w'.ownsRow 0 22 1 (.slice (some ⟨g, 0, none⟩) (j + 1) cap) (j + 1) (vs ++ [v'])) (h2 : (w2.alloc o).grownBy w' u3.ownBlock) (h3 : u3.ownBlock = some g ∨ g = (w2.alloc o).heap.size) =>
        ho.out.step (hall.out o) (hown.view.new ((Upon.refl _ w2).alloc o)) (fun b hb he => Nat.lt_irrefl _ (Nat.lt_of_lt_of_le (World.ownsRow.lt ho.out.row b he).2 (hmine.out b hb))) h1 h2 h3)
      have hjl : j ≤ 8 := by have := hjn.out; unfold nparts at this; omega
      clear hg hb hu2 hown hmine hall hvp ho dm hpl
      subst hv'
      go_wp2_with (at_builtin; refine wpList_append_lies _ rfl _ _ 26 rfl 0 22 i0 (.slice none 0 0) 1 24 Tryd.underlying26 hi hz0 hz1 hz2 rfl (by decide) _ j vs rfl (hrow.out _) ⟨w2.heap.size, 0, none⟩ 1 1 [.slice A' (part l j).length c'] rfl rfl ?c1 ?c2 (by decide) ?c3 ?c4 ?c5 _ rfl ?_)
      case c1 => exact World.news_of_block (cell_new w2 _)
      case c2 => intro u hu; rw [List.mem_singleton.1 hu]; rfl
      case c3 => unfold maxLen; omega
      case c4 => omega
      case c5 => exact Nat.zero_le _
      intro g cap w' h1 h2 h3 h4
      have hO := Lib.hid (hstep.out _ _ _ _ h1 h2 (h3.imp id fun h => h.trans (by simp)))
      clear hstep hrow h1 h2 h3 h4
      go_wp2_with fail
      go_roundw
      case rel => exact ⟨j + 1, i + 64, _, by go_num, Lib.hid (by have := hi'.out; omega), Lib.hid hjn.out, hO⟩
      case measure => simp [intOf]; omega
    · have hjn : Hid (j = nparts l) := Lib.hid (by
        have h1 := hj.out
        have h2 : ¬ j < nparts l := fun h => by have := (nparts_iff l j).2 h; have := hi'.out; omega
        omega)
      have hP := Lib.hid (ho.out.parts hjn.out)
      have hN := Lib.hid ho.out.new
      clear ho hA hv2
      go_wp2_with fail
      go_ret
      exact ⟨u3, rfl, hP.out, hN.out⟩
end Ck
end Go.Proofs.YtadlkfdjdjaakaaDoor
