/- The table of ranges (layer 8), and what touches no object but it: holds, placeOf. -/
import Derived.Test.YtjoaccfjjihleaaDoorTmPure
import Derived.Test.YtjoaccfjjihleaaDoorBitRow
import Derived.Test.YtjoaccfjjihleaaDoorTmRef
import Derived.Test.YtjoaccfjjihleaaDoorRows
import Derived.LaidMore
import Derived.Lib.LaidTab
import Derived.Lib.SmallJoins
import Derived.OpenShut
import Derived.Stop.Joined
import Derived.ProofKit
namespace Go.Proofs.YtjoaccfjjihleaaDoor
open Go.RowKit Go.Sort
namespace Tm
open Bit Dsk Ob
set_option linter.unusedVariables false

def lo (k : Nat) : Int := match k with | 0 => 0 | 1 => -63 | 2 => -255 | 3 => -2047 | _ => -9223372036854775808
def hi (k : Nat) : Int := match k with | 0 => 0 | 1 => 64 | 2 => 256 | 3 => 2048 | _ => 9223372036854775807
/-- A range, as its four numbers. -/
def four (k : Nat) : List Int := [lo k, hi k, ls k, (sz k : Int)]
abbrev span (k : Nat) : Value := .agg #[.int .i64 (lo k), .int .i64 (hi k), .int .i64 (ls k), .int .i64 (sz k : Int)]
theorem holds_iff {x : Int} (hx : In x) {k : Nat} (hk : k ≤ cls x) : (lo k ≤ x ∧ x ≤ hi k) ↔ cls x = k := by
  unfold In at hx
  have h4 := cls_le x
  rcases cls_cases x with ⟨h, e⟩ | ⟨h, h1, h2, e⟩ | ⟨h, h1, h2, e⟩ | ⟨h, h1, h2, e⟩ | ⟨h, e⟩ <;> rw [e] at hk ⊢
  all_goals
    have l0 : lo 0 = 0 := rfl
    have l1 : lo 1 = -63 := rfl
    have l2 : lo 2 = -255 := rfl
    have l3 : lo 3 = -2047 := rfl
    have l4 : lo 4 = -9223372036854775808 := rfl
    have h0 : hi 0 = 0 := rfl
    have h1 : hi 1 = 64 := rfl
    have h2 : hi 2 = 256 := rfl
    have h3 : hi 3 = 2048 := rfl
    have h4 : hi 4 = 9223372036854775807 := rfl
    rcases five (show k ≤ 4 by omega) with rfl | rfl | rfl | rfl | rfl <;> omega
/-- What the laid table gives. -/
structure Tab (w : World) : Prop where
  at_ : ∀ k, k ≤ 4 → ∀ j z, (four k)[j]? = some z → w.cell? ⟨0, k * 4 + j, none⟩ = some (.int .i64 z)
theorem Tab.lt {w : World} (h : Tab w) : 0 < w.heap.size := World.block_lt_of_cell? w _ (h.at_ 0 (by decide) 0 (lo 0) rfl)
theorem Tab.upon {S : Nat → Prop} {w w' : World} (h : Tab w) (hu : Upon S w w') (hS : ¬ S 0) : Tab w' := ⟨fun k hk j z hj => by
  have hc := h.at_ k hk j z hj
  rw [← hc, World.cell?, World.cell?, hu.block _ h.lt hS]⟩
/-- .. and that it lies beside the blocks of S. -/
def TabS (S : Nat → Prop) (w : World) : Prop := Tab w ∧ ¬ S 0
theorem Tab.own {w0 w : World} (h : Tab w0) (hb : Below w0.heap.size w0 w) : Tab w := h.upon (Upon.of_below hb (fun _ => False)) fun f => f
theorem Tab.beside {w0 w : World} (h : Tab w0) (hb : Below w0.heap.size w0 w) {A : Nat → Prop} (hA : ∀ b, A b → w0.heap.size ≤ b) : TabS A w :=
  ⟨h.own hb, fun ha => Nat.lt_irrefl _ (Nat.lt_of_lt_of_le h.lt (hA _ ha))⟩
theorem Tab.row {w : World} (h : Tab w) {k : Nat} (hk : k ≤ 4) : w.cell? ⟨0, k * 4, none⟩ = some (.int .i64 (lo k)) ∧ w.cell? ⟨0, k * 4 + 1, none⟩ = some (.int .i64 (hi k)) ∧ w.cell? ⟨0, k * 4 + 2, none⟩ = some (.int .i64 (ls k)) ∧ w.cell? ⟨0, k * 4 + 3, none⟩ = some (.int .i64 (sz k : Int)) :=
  ⟨h.at_ k hk 0 _ rfl, h.at_ k hk 1 _ rfl, h.at_ k hk 2 _ rfl, h.at_ k hk 3 _ rfl⟩


/-! ### holds -/
set_option maxHeartbeats 1600000 in
theorem holds_any (a b c d x : Int) (w : World) : Calls Tryd.prog 34 #[.agg #[.int .i64 a, .int .i64 b, .int .i64 c, .int .i64 d], .int .i64 x] w fun e w' => e = .returned (.bool (decide (a ≤ x) && decide (x ≤ b))) ∧ New0 w w' := by
  have hend : Hid (New0 w (w.alloc (.cells #[.int .i64 a, .int .i64 b, .int .i64 c, .int .i64 d] 67 (0, 0)))) := Lib.hid ((Upon.refl _ w).alloc _)
  by_cases h : a ≤ x
  · have hd : decide (a ≤ x) = true := decide_eq_true h
    go_enter Tryd.func34, Tryd.ntmps34
    go_wp2_with fail
    go_ret
    exact ⟨by simp [h], hend.out⟩
  · have hd : decide (a ≤ x) = false := decide_eq_false h
    go_enter Tryd.func34, Tryd.ntmps34
    go_wp2_with fail
    go_ret
    exact ⟨by simp, hend.out⟩

/-! ### from the card's condition -/
def laidL : List (String × DataW Unit) := [("barograph/times.spans", Rows.laid_barograph_times_spans)]
def row4 {H : Type} (k : Nat) : DataW H := .agg ((four k).map fun z => .lit (.int .i64 z))
theorem laid_rows {H : Type} : (Rows.laid_barograph_times_spans : DataW H) = .agg ((List.range 5).map row4) := rfl
/-- An array of structs of four integers that reads as such a table holds its numbers, cell for cell. -/
theorem cells_of_rows {H : Type} {enc : TypeId × Value → H} {P : Program} {w : World} {base : Nat} {sp : Nat → Bool} {held : Bool} {fuel n : Nat} {t e : TypeId} {fs : Array Field} {r : Nat → List Int} {cs : List Value} {p : List MemPlace}
    (ht : P.underlying t = some (.array n e)) (he : P.underlying e = some (.struct fs)) (hs : fs.size = 4) (hf : ∀ j (h : j < fs.size), P.underlying fs[j].type = some (.int .i64) ∧ P.cellsOf fs[j].type = 1 ∧ fs[j].offset = j) (hce : P.cellsOf e = 4)
    (h : DataW.trod enc P w base sp held fuel t cs = some (.agg ((List.range n).map fun k => .agg ((r k).map fun z => .lit (.int .i64 z))), p)) :
    ∀ k, k < n → ∀ j z, (r k)[j]? = some z → cs[k * 4 + j]? = some (.int .i64 z) := by
  obtain ⟨xs, m, -, hx, hl, hxl, hi⟩ := DataW.trod_array ht h
  intro k hk j z hj
  have hxs : xs.map (·.1) = (List.range n).map fun k => .agg ((r k).map fun z => .lit (.int .i64 z)) := by
    have := congrArg Prod.fst hx
    simpa using this.symm
  have h1 := hi k hk
  rw [hce] at h1
  have hkl : k < xs.length := by omega
  rw [List.getElem?_eq_getElem hkl] at h1
  have hd : xs[k].1 = .agg ((r k).map fun z => .lit (.int .i64 z)) := by
    have := congrArg (fun l => l[k]?) hxs
    simp only [List.getElem?_map, List.getElem?_eq_getElem hkl, List.getElem?_range hk, Option.map_some, Option.some.injEq] at this
    exact this
  obtain ⟨ys, m2, -, hy, hcl, hyl, hg⟩ := DataW.trod_struct he h1
  rw [hy] at hd
  simp only [DataW.agg.injEq] at hd
  have hjl : j < (r k).length := (List.getElem?_eq_some_iff.1 hj).1
  have hjy : j < ys.length := by
    have := congrArg List.length hd
    simp at this
    omega
  have hj4 : j < fs.size := by omega
  obtain ⟨hu, hc, ho⟩ := hf j hj4
  have h2 := hg j fs[j] (Array.getElem?_eq_getElem hj4)
  rw [List.getElem?_eq_getElem hjy, hc, ho] at h2
  obtain ⟨z', hc2, hz', -⟩ := DataW.trod_int hu h2
  have hz : ys[j].1 = .lit (.int .i64 z) := by
    have := congrArg (fun l => l[j]?) hd
    simp only [List.getElem?_map, List.getElem?_eq_getElem hjy, hj, Option.map_some, Option.some.injEq] at this
    exact this
  have e1 : z' = z := by
    have := congrArg Prod.fst hz'
    simp only [hz, DataW.lit.injEq, Lit.int.injEq, true_and] at this
    exact this.symm
  subst e1
  have := congrArg (·[0]?) hc2
  simpa [List.getElem?_take, List.getElem?_drop, show j < 4 by omega] using this
theorem tab_of_laid {W : World} (h : laidMetH Tryd.prog laidL W) : Tab W := by
  rw [MakeChecks.laidMetH_plain _ _ _ (by kernel_rfl)] at h
  have hg : Tryd.prog.globalNamed "barograph/times.spans" = some 0 := by kernel_rfl
  obtain ⟨ps, ⟨g', t', cs, fuel, p, q, hg', ht', hvar, hd, _, _⟩, _⟩ := h
  obtain rfl := Option.some.inj (hg.symm.trans hg')
  obtain rfl := Option.some.inj ((show (Tryd.prog.globals[0]?).map (·.type) = some 68 by kernel_rfl).symm.trans ht')
  have hd' := cells_of_rows (r := four) (n := 5) Tryd.underlying68 Tryd.underlying67 rfl (fun j h => match j, h with
    | 0, _ => ⟨Tryd.underlying2, by kernel_rfl, rfl⟩
    | 1, _ => ⟨Tryd.underlying2, by kernel_rfl, rfl⟩
    | 2, _ => ⟨Tryd.underlying2, by kernel_rfl, rfl⟩
    | 3, _ => ⟨Tryd.underlying3, by kernel_rfl, rfl⟩
    | j + 4, h => absurd h (by simp)) (by kernel_rfl) hd
  exact ⟨fun k hk j z hj => by
    have h1 := World.var?_cell hg hvar (k * 4 + j)
    rw [← Array.getElem?_toList] at h1
    rw [hd' k (by omega) j z hj] at h1
    exact h1⟩
theorem door_met (os : Os) (args : Array Value) : laidMetH Tryd.prog laidL ((World.doorLaid Tryd.prog 400 os).forCall (fun _ _ => 0) ⟨#[], args, []⟩).memory :=
  laidMetH_of_parts3 (fuel := 8) (laidMet_of_run' 8 (by kernel_rfl) (by kernel_rfl)) (by kernel_rfl) (by kernel_rfl)
end Tm
end Go.Proofs.YtjoaccfjjihleaaDoor
