/- slices.Reverse at a row of segments (layer 5). -/
import Derived.Test.YtlgjbdfnhaoloaaGreatDoorPWal3
import Derived.Shelf.Lay
import Derived.Shelf.SlicesE.Reverse
import Derived.Ground.SlgnProg
import Derived.Sort.OwnSorted
set_option linter.unusedSimpArgs false
set_option linter.unusedVariables false
namespace Go.Proofs.YtlgjbdfnhaoloaaGreatDoor
open Go.RowKit Go.Sort Go.Shelf
namespace Wal
open Dig Frm Dsk

shelf_lay_g SlLaysE.n35 Slgn 35 at Tryz 44 as Tryz.revSeg

def encP (b : Nat) : Value := .pointer (some ⟨b, 0, none⟩)
theorem encP_map (l : List GS) : (l.map (·.b)).map encP = l.map ptrV := by rw [List.map_map]; rfl

theorem holds_encP {w : World} {g : Nat} {cur : Array Value} {e : TypeId} {ss : List Nat} (hb : w.heap[g]? = some (.cells cur e (0, 0))) (ht : cur.toList.take ss.length = ss.map encP) : Sort.Holds encP w g 0 ss.toArray := by
  intro j hj
  have hj' : j < ss.length := by simpa using hj
  refine ⟨?_, by simp [World.frozen?, hb]⟩
  have h1 : (cur.toList.take ss.length)[j]? = (ss.map encP)[j]? := by rw [ht]
  rw [List.getElem?_take_of_lt hj'] at h1
  simp only [World.cell?, hb, Nat.zero_add]
  simp only [Option.isSome_none, Bool.false_eq_true, if_false]
  rw [← Array.getElem?_toList, h1]
  simp [hj']
theorem take_encP (cur : Array Value) (ts : List Nat) (h : ts.length ≤ cur.size) : (putCells encP 0 ts.toArray cur).toList.take ts.length = ts.map encP := by
  apply List.ext_getElem?
  intro j
  by_cases hj : j < ts.length
  · rw [List.getElem?_take_of_lt hj, Array.getElem?_toList]
    simp [putCells, hj, show j < cur.size by omega]
  · rw [List.getElem?_take_eq_none (by omega), List.getElem?_eq_none (by simp; omega)]

theorem reverse_any (T : Nat → Prop) (l : List GS) (v : Value) (w : World) (hr : RowAt w T l v) :
    Calls Tryz.prog 44 #[v] w fun e w' => e = .returned (.tuple #[]) ∧ Upon (fun b => v.ownBlock = some b) w w' ∧ RowAt w' T l.reverse v := by
  rcases hr.row.2 with ⟨hv, h0⟩ | ⟨g, cap, cur, hv, hbase, hg, h1, h2, h3, h4⟩
  · obtain rfl := List.eq_nil_of_length_eq_zero h0
    rw [hv]
    refine (AnyE.slices_Reverse_empty Tryz.revSeg none 0 w).mono ?_
    rintro e w' ⟨rfl, rfl⟩
    exact ⟨rfl, Upon.refl _ _, RowAt.nil _ _⟩
  · have hH : Sort.Holds encP w g 0 (l.map (·.b)).toArray := holds_encP (ss := l.map (·.b)) hg (by rw [encP_map]; simpa using h4)
    have hc := AnyE.slices_Reverse Tryz.revSeg encP (fun _ => rfl) g 0 cap (l.map (·.b)) w hH (by rw [List.length_map]; unfold maxLen at h2; omega)
    rw [List.length_map] at hc
    subst hv
    refine hc.mono ?_
    rintro e w' ⟨rfl, n, rfl⟩
    refine ⟨rfl, ⟨rfl, rfl, rfl, by simp, fun k hk hne => ?_⟩, ⟨?_, hr.inT⟩⟩
    · have : g ≠ k := fun e => hne (by rw [e]; rfl)
      simp [putRow, mapBlock, Sort.ahead, Array.getElem?_modify, this]
    · refine ⟨by simp, .inr ⟨g, cap, putCells encP 0 ((l.map (·.b)).reverse).toArray cur, by rw [List.length_reverse], hbase, ?_, by simpa using h1, h2, by simp [putCells, h3], ?_⟩⟩
      · simp [putRow, mapBlock, Sort.ahead, Array.getElem?_modify, hg, onCells]
      · have := take_encP cur ((l.map (·.b)).reverse) (by simp; omega)
        rw [← List.map_reverse, encP_map] at this
        simpa using this
end Wal
end Go.Proofs.YtlgjbdfnhaoloaaGreatDoor
