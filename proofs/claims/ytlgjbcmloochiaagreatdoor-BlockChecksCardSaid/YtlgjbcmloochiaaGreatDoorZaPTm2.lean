/- Parts, put together: TmTab, TmCd0, TmCd, TmLaw1. -/
import Derived.Test.YtlgjbcmloochiaaGreatDoorZaPTm1
import Derived.Test.YtlgjbcmloochiaaGreatDoorZaPBit3
import Derived.Test.YtlgjbcmloochiaaGreatDoorRows
import Derived.LaidMore
import Derived.Lib.LaidTab
import Derived.Lib.SmallJoins
import Derived.OpenShut
import Derived.Stop.Joined
import Derived.ProofKit
import Derived.Test.YtlgjbcmloochiaaGreatDoorZaPObj
import Derived.BigQuiet
import Derived.StillTailTactics
set_option maxRecDepth 100000

/- The table of ranges (layer 8), and what touches no object but it: holds, placeOf. -/
section
namespace Go.Proofs.YtlgjbcmloochiaaGreatDoor
open Go.RowKit Go.Sort
namespace Tm
open Bit Dsk Ob
set_option linter.unusedVariables false

def lo (k : Nat) : Int := match k with | 0 => 0 | 1 => -63 | 2 => -255 | 3 => -2047 | _ => -9223372036854775808
def hi (k : Nat) : Int := match k with | 0 => 0 | 1 => 64 | 2 => 256 | 3 => 2048 | _ => 9223372036854775807
/-- A range, as its four numbers. -/
def four (k : Nat) : List Int := [lo k, hi k, ls k, (sz k : Int)]
abbrev span (k : Nat) : Value := .agg #[.int .i64 (lo k), .int .i64 (hi k), .int .i64 (ls k), .int .i64 (sz k : Int)]
theorem holds_iff {x : Int} (hx : In x) {k : Nat} (hk : k ≤ cls x) : (lo k ≤ x ∧ x ≤ hi k) ↔ cls x = k := by
  unfold In at hx
  have h4 := cls_le x
  rcases cls_cases x with ⟨h, e⟩ | ⟨h, h1, h2, e⟩ | ⟨h, h1, h2, e⟩ | ⟨h, h1, h2, e⟩ | ⟨h, e⟩ <;> rw [e] at hk ⊢
  all_goals
    have l0 : lo 0 = 0 := rfl
    have l1 : lo 1 = -63 := rfl
    have l2 : lo 2 = -255 := rfl
    have l3 : lo 3 = -2047 := rfl
    have l4 : lo 4 = -9223372036854775808 := rfl
    have h0 : hi 0 = 0 := rfl
    have h1 : hi 1 = 64 := rfl
    have h2 : hi 2 = 256 := rfl
    have h3 : hi 3 = 2048 := rfl
    have h4 : hi 4 = 9223372036854775807 := rfl
    rcases five (show k ≤ 4 by omega) with rfl | rfl | rfl | rfl | rfl <;> omega
/-- What the laid table gives. -/
structure Tab (w : World) : Prop where
  at_ : ∀ k, k ≤ 4 → ∀ j z, (four k)[j]? = some z → w.cell? ⟨2, k * 4 + j, none⟩ = some (.int .i64 z)
theorem Tab.lt {w : World} (h : Tab w) : 2 < w.heap.size := World.block_lt_of_cell? w _ (h.at_ 0 (by decide) 0 (lo 0) rfl)
theorem Tab.upon {S : Nat → Prop} {w w' : World} (h : Tab w) (hu : Upon S w w') (hS : ¬ S 2) : Tab w' := ⟨fun k hk j z hj => by
  have hc := h.at_ k hk j z hj
  rw [← hc, World.cell?, World.cell?, hu.block _ h.lt hS]⟩
/-- .. and that it lies beside the blocks of S. -/
def TabS (S : Nat → Prop) (w : World) : Prop := Tab w ∧ ¬ S 2
theorem Tab.own {w0 w : World} (h : Tab w0) (hb : Below w0.heap.size w0 w) : Tab w := h.upon (Upon.of_below hb (fun _ => False)) fun f => f
theorem Tab.beside {w0 w : World} (h : Tab w0) (hb : Below w0.heap.size w0 w) {A : Nat → Prop} (hA : ∀ b, A b → w0.heap.size ≤ b) : TabS A w :=
  ⟨h.own hb, fun ha => Nat.lt_irrefl _ (Nat.lt_of_lt_of_le h.lt (hA _ ha))⟩
theorem Tab.row {w : World} (h : Tab w) {k : Nat} (hk : k ≤ 4) : w.cell? ⟨2, k * 4, none⟩ = some (.int .i64 (lo k)) ∧ w.cell? ⟨2, k * 4 + 1, none⟩ = some (.int .i64 (hi k)) ∧ w.cell? ⟨2, k * 4 + 2, none⟩ = some (.int .i64 (ls k)) ∧ w.cell? ⟨2, k * 4 + 3, none⟩ = some (.int .i64 (sz k : Int)) :=
  ⟨h.at_ k hk 0 _ rfl, h.at_ k hk 1 _ rfl, h.at_ k hk 2 _ rfl, h.at_ k hk 3 _ rfl⟩

/-! ### holds -/
set_option maxHeartbeats 1600000 in
theorem holds_any (a b c d x : Int) (w : World) : Calls Tryz.prog 249 #[.agg #[.int .i64 a, .int .i64 b, .int .i64 c, .int .i64 d], .int .i64 x] w fun e w' => e = .returned (.bool (decide (a ≤ x) && decide (x ≤ b))) ∧ New0 w w' := by
  have hend : Hid (New0 w (w.alloc (.cells #[.int .i64 a, .int .i64 b, .int .i64 c, .int .i64 d] 315 (0, 0)))) := Lib.hid ((Upon.refl _ w).alloc _)
  by_cases h : a ≤ x
  · have hd : decide (a ≤ x) = true := decide_eq_true h
    go_enter Tryz.func249, Tryz.ntmps249
    go_wp2_with fail
    go_ret
    exact ⟨by simp [h], hend.out⟩
  · have hd : decide (a ≤ x) = false := decide_eq_false h
    go_enter Tryz.func249, Tryz.ntmps249
    go_wp2_with fail
    go_ret
    exact ⟨by simp, hend.out⟩

/-! ### from the card's condition -/
/-- An array of structs of four integers that reads as such a table holds its numbers, cell for cell. -/
theorem cells_of_rows {H : Type} {enc : TypeId × Value → H} {P : Program} {w : World} {base : Nat} {sp : Nat → Bool} {held : Bool} {fuel n : Nat} {t e : TypeId} {fs : Array Field} {r : Nat → List Int} {cs : List Value} {p : List MemPlace}
    (ht : P.underlying t = some (.array n e)) (he : P.underlying e = some (.struct fs)) (hs : fs.size = 4) (hf : ∀ j (h : j < fs.size), P.underlying fs[j].type = some (.int .i64) ∧ P.cellsOf fs[j].type = 1 ∧ fs[j].offset = j) (hce : P.cellsOf e = 4)
    (h : DataW.trod enc P w base sp held fuel t cs = some (.agg ((List.range n).map fun k => .agg ((r k).map fun z => .lit (.int .i64 z))), p)) :
    ∀ k, k < n → ∀ j z, (r k)[j]? = some z → cs[k * 4 + j]? = some (.int .i64 z) := by
  obtain ⟨xs, m, -, hx, hl, hxl, hi⟩ := DataW.trod_array ht h
  intro k hk j z hj
  have hxs : xs.map (·.1) = (List.range n).map fun k => .agg ((r k).map fun z => .lit (.int .i64 z)) := by
    have := congrArg Prod.fst hx
    simpa using this.symm
  have h1 := hi k hk
  rw [hce] at h1
  have hkl : k < xs.length := by omega
  rw [List.getElem?_eq_getElem hkl] at h1
  have hd : xs[k].1 = .agg ((r k).map fun z => .lit (.int .i64 z)) := by
    have := congrArg (fun l => l[k]?) hxs
    simp only [List.getElem?_map, List.getElem?_eq_getElem hkl, List.getElem?_range hk, Option.map_some, Option.some.injEq] at this
    exact this
  obtain ⟨ys, m2, -, hy, hcl, hyl, hg⟩ := DataW.trod_struct he h1
  rw [hy] at hd
  simp only [DataW.agg.injEq] at hd
  have hjl : j < (r k).length := (List.getElem?_eq_some_iff.1 hj).1
  have hjy : j < ys.length := by
    have := congrArg List.length hd
    simp at this
    omega
  have hj4 : j < fs.size := by omega
  obtain ⟨hu, hc, ho⟩ := hf j hj4
  have h2 := hg j fs[j] (Array.getElem?_eq_getElem hj4)
  rw [List.getElem?_eq_getElem hjy, hc, ho] at h2
  obtain ⟨z', hc2, hz', -⟩ := DataW.trod_int hu h2
  have hz : ys[j].1 = .lit (.int .i64 z) := by
    have := congrArg (fun l => l[j]?) hd
    simp only [List.getElem?_map, List.getElem?_eq_getElem hjy, hj, Option.map_some, Option.some.injEq] at this
    exact this
  have e1 : z' = z := by
    have := congrArg Prod.fst hz'
    simp only [hz, DataW.lit.injEq, Lit.int.injEq, true_and] at this
    exact this.symm
  subst e1
  have := congrArg (·[0]?) hc2
  simpa [List.getElem?_take, List.getElem?_drop, show j < 4 by omega] using this
theorem tab_of_head {W : World} {rest : List (String × DataW Unit)} (h : laidMet Tryz.prog (("barograph/times.spans", Rows.laid_barograph_times_spans) :: rest) W) : Tab W := by
  have hg : Tryz.prog.globalNamed "barograph/times.spans" = some 2 := by kernel_rfl
  obtain ⟨ps, ⟨g', t', cs, fuel, p, q, hg', ht', hvar, hd, _, _⟩, _⟩ := h
  obtain rfl := Option.some.inj (hg.symm.trans hg')
  obtain rfl := Option.some.inj ((show (Tryz.prog.globals[2]?).map (·.type) = some 316 by kernel_rfl).symm.trans ht')
  have hd' := cells_of_rows (r := four) (n := 5) Tryz.underlying316 Tryz.underlying315 rfl (fun j h => match j, h with
    | 0, _ => ⟨Tryz.underlying2, by kernel_rfl, rfl⟩
    | 1, _ => ⟨Tryz.underlying2, by kernel_rfl, rfl⟩
    | 2, _ => ⟨Tryz.underlying2, by kernel_rfl, rfl⟩
    | 3, _ => ⟨Tryz.underlying3, by kernel_rfl, rfl⟩
    | j + 4, h => absurd h (by simp)) (by kernel_rfl) hd
  exact ⟨fun k hk j z hj => by
    have h1 := World.var?_cell hg hvar (k * 4 + j)
    rw [← Array.getElem?_toList] at h1
    rw [hd' k (by omega) j z hj] at h1
    exact h1⟩
end Tm
end Go.Proofs.YtlgjbcmloochiaaGreatDoor
end

/- The program's coder of times (layer 8): its functions over plain data, up to the first Put. -/
section
namespace Go.Proofs.YtlgjbcmloochiaaGreatDoor
open Go.RowKit Go.Sort
namespace Tm
open Bit Dsk Ob
set_option linter.unusedVariables false

/-! ### ranges -/
theorem holdsT {a b c d x : Int} (h : a ≤ x ∧ x ≤ b) (w : World) : Calls Tryz.prog 249 #[.agg #[.int .i64 a, .int .i64 b, .int .i64 c, .int .i64 d], .int .i64 x] w fun e w' => e = .returned (.bool true) ∧ New0 w w' := by
  refine (holds_any a b c d x w).mono fun e w' ⟨he, hu⟩ => ⟨?_, hu⟩
  rw [he, decide_eq_true h.1, decide_eq_true h.2]; rfl
theorem holdsF {a b c d x : Int} (h : ¬ (a ≤ x ∧ x ≤ b)) (w : World) : Calls Tryz.prog 249 #[.agg #[.int .i64 a, .int .i64 b, .int .i64 c, .int .i64 d], .int .i64 x] w fun e w' => e = .returned (.bool false) ∧ New0 w w' := by
  refine (holds_any a b c d x w).mono fun e w' ⟨he, hu⟩ => ⟨?_, hu⟩
  rw [he]
  by_cases h1 : a ≤ x
  · rw [decide_eq_true h1, decide_eq_false (fun h2 => h ⟨h1, h2⟩)]; rfl
  · rw [decide_eq_false h1]; rfl
set_option maxRecDepth 100000 in
set_option maxHeartbeats 3200000 in
theorem placeOf_any (x : Int) (hx : In x) (w : World) (hT : Tab w) : Calls Tryz.prog 228 #[.int .i64 x] w fun e w' => e = .returned (.int .i64 (cls x : Int)) ∧ New0 w w' := by
  have h4 := cls_le x
  have hI := Lib.hid (fun (k : Nat) (h : k ≤ cls x) => holds_iff hx h)
  replace hT := Lib.hid hT
  clear hx
  generalize cls x = m at *
  go_enter Tryz.func228, Tryz.ntmps228
  go_wp2_with fail
  go_loopw [3] (fun ov wr => ∃ j : Nat, ov = .int .i64 (j : Int) ∧ Hid (j ≤ m) ∧ Hid (New0 w wr)) (fun ov _ => 5 - (intOf ov).toNat)
  case atStart => exact ⟨0, rfl, Lib.hid (Nat.zero_le _), Lib.hid (Upon.refl _ w)⟩
  case round =>
    obtain ⟨j, rfl, hj, hst⟩ := hrel
    have hj4 : j ≤ 4 := Nat.le_trans hj.out h4
    have hh := hI.out j hj.out
    have hT' := hT.out.upon hst.out fun f => f
    clear hI hT
    obtain ⟨c0, c1, c2, c3⟩ := hT'.row hj4
    clear hT'
    by_cases hc : m = j
    · have hy := hh.2 hc
      have HH := Lib.hid (fun w => holdsT (c := ls j) (d := sz j) hy w)
      replace hc := Lib.hid hc
      clear hh h4 hj hy
      go_wp2_with fail
      refine (HH.out _).mono ?_
      rintro e w2 ⟨rfl, hu2⟩
      have hu := Lib.hid (hst.out.trans hu2)
      clear HH hst hu2 c0 c1 c2 c3
      go_wp2_with fail
      go_ret
      exact ⟨ret_int (by rw [hc.out]), hu.out⟩
    · have hy := fun h => hc (hh.1 h)
      have HH := Lib.hid (fun w => holdsF (c := ls j) (d := sz j) hy w)
      have hlt : Hid (j + 1 ≤ m) := Lib.hid (by have := hj.out; omega)
      have hj3 : j < 4 := by have := hj.out; omega
      clear hh hc h4 hj hy
      go_wp2_with fail
      refine (HH.out _).mono ?_
      rintro e w2 ⟨rfl, hu2⟩
      have hu := Lib.hid (hst.out.trans hu2)
      clear HH hst hu2 c0 c1 c2 c3
      go_wp2_with fail
      go_roundw
      case rel => exact ⟨j + 1, by go_num, hlt, hu⟩
      case measure => simp [intOf]; omega

/-! ### a head is written -/
abbrev Wr (p : Nat) (L : List Bool) : Ob.Rel := fun w S => IsW w S p L
theorem wPut {S : Nat → Prop} {w0 w : World} {p : Nat} {L L' : List Bool} (H : ObjStep (Wr p L) S w0 w) (v : Nat) (n : Int) (hL : L.length ≤ 90000000000000) (hv : v < 18446744073709551616) (e : L ++ bitsOf v (cnt n) = L') :
    Calls Tryz.prog 212 #[.pointer (some ⟨p, 0, none⟩), .int .u64 (v : Int), .int .i64 n] w fun e w' => e = .returned (.tuple #[]) ∧ ObjStep (Wr p L') S w0 w' := by
  subst e
  exact callW (Q := fun e => e = .returned (.tuple #[])) H fun A h => put_any A p L v n w h hL hv
theorem hd_rep {k : Nat} (hk : k ≤ 4) : hd k = List.replicate k true ++ (if k < 4 then [false] else []) := by
  rcases five hk with rfl | rfl | rfl | rfl | rfl <;> rfl
set_option maxRecDepth 100000 in
set_option maxHeartbeats 3200000 in
theorem putHead_any (S : Nat → Prop) (p k : Nat) (L : List Bool) (w : World) (h : IsW w S p L) (hk : k ≤ 4) (hL : L.length ≤ 80000000000000) :
    Calls Tryz.prog 229 #[.pointer (some ⟨p, 0, none⟩), .int .i64 (k : Int)] w fun e w' => e = .returned (.tuple #[]) ∧ ObjStep (Wr p (L ++ hd k)) S w w' := by
  have H := Lib.hid (ObjStep.refl (I := Wr p L) h)
  have hh := Lib.hid (hd_rep hk)
  replace hL := Lib.hid hL
  clear h
  go_enter Tryz.func229, Tryz.ntmps229
  go_wp2_with fail
  go_loopw [5] (fun ov wr => ∃ j : Nat, ov = .int .i64 (j : Int) ∧ j ≤ k ∧ ObjStep (Wr p (L ++ List.replicate j true)) S w wr) (fun ov _ => k - (intOf ov).toNat)
  case atStart => exact ⟨0, rfl, Nat.zero_le _, by simpa using H.out⟩
  case round =>
    obtain ⟨j, rfl, hj, hst⟩ := hrel
    by_cases hlt : j < k
    · have HG := Lib.hid (wPut hst 1 1 (by have := hL.out; simp; omega) (by decide) (L' := L ++ List.replicate (j + 1) true) (by rw [List.append_assoc, List.replicate_succ']; rfl))
      clear hst H
      go_wp2_with fail
      refine HG.out.mono ?_
      rintro e w2 ⟨rfl, h2⟩
      replace h2 := Lib.hid h2
      clear HG
      go_wp2_with fail
      go_roundw
      case rel => exact ⟨j + 1, by go_num, hlt, h2.out⟩
      case measure => simp [intOf]; omega
    · obtain rfl : j = k := by omega
      by_cases h4 : j < 4
      · have HG := Lib.hid (wPut hst 0 1 (by have := hL.out; simp; omega) (by decide) (L' := L ++ hd j) (by rw [hh.out, if_pos h4, List.append_assoc]; rfl))
        clear hst H
        go_wp2_with fail
        refine HG.out.mono ?_
        rintro e w2 ⟨rfl, h2⟩
        replace h2 := Lib.hid h2
        clear HG
        go_wp2_with fail
        go_end0
        exact ⟨rfl, h2.out⟩
      · have hh2 := hh.out
        rw [if_neg h4, List.append_nil] at hh2
        rw [← hh2] at hst
        replace hst := Lib.hid hst
        clear H hh hh2
        go_wp2_with fail
        go_end0
        exact ⟨rfl, hst.out⟩
theorem un_add (x y : Int) : IntKind.u64.wrap (wrap64 (x + y)) = (un (x + y) : Int) := by rw [w64_wr, u64_un, un_wr]
set_option maxRecDepth 100000 in
set_option maxHeartbeats 3200000 in
theorem putChange_any (S : Nat → Prop) (p : Nat) (x : Int) (L : List Bool) (w : World) (h : IsW w S p L) (hx : In x) (hL : L.length ≤ 80000000000000) (hT : TabS S w) :
    Calls Tryz.prog 211 #[.pointer (some ⟨p, 0, none⟩), .int .i64 x] w fun e w' => e = .returned (.tuple #[]) ∧ ObjStep (Wr p (L ++ chB x)) S w w' := by
  have h4 := cls_le x
  have HA := Lib.hid (placeOf_any x hx w hT.1)
  have hch : Hid (L ++ hd (cls x) ++ bitsOf (un (x + ls (cls x))) (sz (cls x)) = L ++ chB x) := Lib.hid (by unfold chB val; rw [List.append_assoc])
  have H0 := Lib.hid (ObjStep.refl (I := Wr p L) h)
  replace hT := Lib.hid hT
  replace hL := Lib.hid hL
  clear h hx
  generalize cls x = k at *
  have hl : (hd k).length ≤ 4 := by rcases five h4 with rfl | rfl | rfl | rfl | rfl <;> decide
  have hz : sz k ≤ 64 := by rcases five h4 with rfl | rfl | rfl | rfl | rfl <;> decide
  have hn : cnt (sz k : Int) = sz k := cnt_nat hz
  replace hn := Lib.hid hn
  replace hl := Lib.hid hl
  go_enter Tryz.func211, Tryz.ntmps211
  go_wp2_with fail
  refine HA.out.mono ?_
  rintro e w2 ⟨rfl, hu2⟩
  have h2 := stepNew (objW _ _) H0.out hu2
  have HB := Lib.hid (callW (Q := fun e => e = .returned (.tuple #[])) h2 fun A h => putHead_any A p k L w2 h h4 (by have := hL.out; omega))
  clear HA H0 h2 hu2
  go_wp2_with fail
  refine HB.out.mono ?_
  rintro e w3 ⟨rfl, h3⟩
  obtain ⟨c0, c1, c2, c3⟩ := (hT.out.1.upon h3.upon hT.out.2).row h4
  have hy := un_add x (ls k)
  have hyl := un_lt (x + ls k)
  generalize un (x + ls k) = y at *
  have hbox : New0 w3 (w3.alloc (.cells #[.int .i64 (lo k), .int .i64 (hi k), .int .i64 (ls k), .int .i64 (sz k : Int)] 315 (0, 0))) := (Upon.refl _ w3).alloc _
  have HC := Lib.hid (wPut (stepNew (objW _ _) h3 hbox) y (sz k : Int) (by have := hL.out; have := hl.out; rw [List.length_append]; omega) hyl (L' := L ++ chB x) (by rw [hn.out, hch.out]))
  clear HB h3 hbox hyl hT hch hn hl
  go_wp2_with fail
  refine HC.out.mono ?_
  rintro e w4 ⟨rfl, h4⟩
  replace h4 := Lib.hid h4
  clear HC c0 c1 c2 c3
  go_wp2_with fail
  go_end0
  exact ⟨rfl, h4.out⟩

/-! ### a head is read -/

/-! ### a change is read -/

/-! ### the coder in memory -/
/-- The program's coder at block q. -/
def IsCd (q : Nat) (c : Cd) : Ob.Rel := fun w S => w.heap[q]? = some (.cells (cCells c) 293 (0, 0)) ∧ ∀ x, S x ↔ x = q
theorem objCd (q : Nat) (c : Cd) : Thing (IsCd q c) := ⟨fun w w' S h hk _ => ⟨(hk q ((h.2 q).2 rfl)).trans h.1, h.2⟩, fun w S h x hx => by rw [(h.2 x).1 hx]; exact (Array.getElem?_eq_some_iff.1 h.1).1⟩
theorem cd3 {w : World} {q : Nat} {c : Cd} (h : w.heap[q]? = some (.cells (cCells c) 293 (0, 0))) :
    w.cell? ⟨q, 0, none⟩ = some (.bool c.begun) ∧ w.cell? ⟨q, 1, none⟩ = some (.int .i64 c.t) ∧ w.cell? ⟨q, 2, none⟩ = some (.int .i64 c.d) ∧ ∀ o, w.frozen? ⟨q, o, none⟩ = false := by
  refine ⟨?_, ?_, ?_, fun o => Lib.frozen_of_heap h o⟩ <;> (rw [Lib.cell_of_heap h]; rfl)
theorem cdSet {w : World} {A : Nat → Prop} {q o : Nat} {c c' : Cd} {v : Value} (h : IsCd q c w A) (he : (cCells c).setIfInBounds o v = cCells c') : ObjStep (IsCd q c') A w (w.setCell ⟨q, o, none⟩ v) :=
  stepCell ((h.2 q).2 rfl) ⟨by rw [← he]; simp [World.setCell, Array.getElem?_modify, h.1], h.2⟩
def CMade (w : World) (e : Ending) (w' : World) : Prop := ∃ q, e = .returned (.pointer (some ⟨q, 0, none⟩)) ∧ IsCd q newC w' (fun x => x = q) ∧ w.heap.size ≤ q ∧ New0 w w'
set_option maxHeartbeats 800000 in
theorem new_any (w : World) (hT : Tab w) : Calls Tryz.prog 187 #[] w (CMade w) := by
  have H : Hid (CMade w (.returned (.pointer (some ⟨w.heap.size, 0, none⟩))) (w.alloc (.cells #[.bool false, .int .i64 0, .int .i64 0] 293 (0, 0)))) := Lib.hid
    ⟨w.heap.size, rfl, ⟨cell_new w _, fun x => Iff.rfl⟩, Nat.le_refl _, (Upon.refl _ w).alloc _⟩
  clear hT
  go_enter Tryz.func187, Tryz.ntmps187
  go_wp2
  go_ret
  exact H.out

/-! ### coder and another object -/
theorem notg {I : Ob.Rel} {S : Nat → Prop} {w0 w : World} {g : Nat} (H : ObjStep I S w0 w) (hg : ¬ S g) (hl : g < w0.heap.size) : ObjStep (fun w T => I w T ∧ ¬ T g) S w0 w := by
  obtain ⟨⟨S', h1, h2, h3⟩, hu⟩ := H
  exact ⟨⟨S', ⟨h1, fun h => by rcases h3 g h with k | k; exact hg k; omega⟩, h2, h3⟩, hu⟩
theorem notgR {I J : Ob.Rel} {S : Nat → Prop} {w0 w : World} {g : Nat} (H : ObjStep (Tens I J) S w0 w) (hg : ¬ S g) (hl : g < w0.heap.size) : ObjStep (Tens I (fun w B => J w B ∧ ¬ B g)) S w0 w :=
  (notg H hg hl).mono fun T ⟨⟨A, B, h1, h2, h3, h4⟩, hn⟩ => ⟨A, B, h1, ⟨h2, fun hb => hn ((h4 _).2 (.inr hb))⟩, h3, h4⟩
abbrev PJ (q : Nat) (c : Cd) (J : Ob.Rel) : Ob.Rel := Tens (IsCd q c) J
theorem pjCells {J : Ob.Rel} {S : Nat → Prop} {w0 w : World} {q : Nat} {c : Cd} (H : ObjStep (PJ q c J) S w0 w) :
    w.cell? ⟨q, 0, none⟩ = some (.bool c.begun) ∧ w.cell? ⟨q, 1, none⟩ = some (.int .i64 c.t) ∧ w.cell? ⟨q, 2, none⟩ = some (.int .i64 c.d) ∧ ∀ o, w.frozen? ⟨q, o, none⟩ = false := by
  obtain ⟨A, h⟩ := seeL H
  exact cd3 h.1
theorem pjSet {J : Ob.Rel} (hJ : Thing J) {S : Nat → Prop} {w0 w : World} {q o : Nat} {c c' : Cd} {v : Value} (H : ObjStep (PJ q c J) S w0 w) (he : (cCells c).setIfInBounds o v = cCells c') : ObjStep (PJ q c' J) S w0 (w.setCell ⟨q, o, none⟩ v) :=
  stepL hJ H fun A h => cdSet h he
set_option maxRecDepth 100000 in
set_option maxHeartbeats 3200000 in
theorem moveTo_any {J : Ob.Rel} (hJ : Thing J) (S : Nat → Prop) (q : Nat) (c : Cd) (t : Int) (w0 w : World) (H : ObjStep (PJ q c J) S w0 w) :
    Calls Tryz.prog 213 #[.pointer (some ⟨q, 0, none⟩), .int .i64 t] w fun e w' => e = .returned (.tuple #[]) ∧ ObjStep (PJ q (putC c t) J) S w0 w' := by
  obtain ⟨k0, k1, k2, kf⟩ := pjCells H
  have f0 := kf 0
  have f1 := kf 1
  have f2 := kf 2
  cases hb : c.begun with
  | false =>
    have e1 : putC c t = ⟨true, t, c.d⟩ := by unfold putC; rw [if_pos hb]
    have H1 := pjSet hJ (o := 0) (v := .bool true) (c' := { c with begun := true }) H rfl
    have H2 := Lib.hid (pjSet hJ (o := 1) (v := .int .i64 t) (c' := ⟨true, t, c.d⟩) H1 rfl)
    obtain ⟨m0, m1, m2, mf⟩ := pjCells H1
    have g1 := mf 1
    rw [hb] at k0
    rw [e1]
    clear H H1 kf mf hb e1
    go_enter Tryz.func213, Tryz.ntmps213
    go_wp2_with fail
    go_end0
    exact ⟨rfl, H2.out⟩
  | true =>
    have e1 : putC c t = ⟨true, t, wr (t - c.t)⟩ := by unfold putC; rw [if_neg (by simp [hb])]
    have hw := w64_wr (t - c.t)
    have H0 := pjSet hJ (o := 2) (v := .int .i64 (wr (t - c.t))) (c' := { c with d := wr (t - c.t) }) H rfl
    have H1 := pjSet hJ (o := 0) (v := .bool true) (c' := { c with begun := true, d := wr (t - c.t) }) H0 rfl
    have H2 := Lib.hid (pjSet hJ (o := 1) (v := .int .i64 t) (c' := ⟨true, t, wr (t - c.t)⟩) H1 rfl)
    obtain ⟨l0, l1, l2, lf⟩ := pjCells H0
    obtain ⟨m0, m1, m2, mf⟩ := pjCells H1
    have g0 := lf 0
    have g1 := mf 1
    rw [hb] at k0
    rw [e1]
    clear H H0 H1 kf lf mf hb e1
    generalize wr (t - c.t) = d at *
    go_enter Tryz.func213, Tryz.ntmps213
    go_wp2_with fail
    go_end0
    exact ⟨rfl, H2.out⟩

/-! ### Put -/
abbrev PW (q : Nat) (c : Cd) (p : Nat) (L : List Bool) : Ob.Rel := Tens (IsCd q c) (fun w S => IsW w S p L)
theorem thingPW (q : Nat) (c : Cd) (p : Nat) (L : List Bool) : Thing (PW q c p L) := Tens.ob (objCd q c) (objW p L)
set_option maxRecDepth 100000 in
set_option maxHeartbeats 3200000 in
theorem cdPut_first (S : Nat → Prop) (q p : Nat) (c : Cd) (L : List Bool) (t : Int) (w : World) (h : PW q c p L w S) (hb : c.begun = false) (hL : L.length ≤ 80000000000000) :
    Calls Tryz.prog 189 #[.pointer (some ⟨q, 0, none⟩), .pointer (some ⟨p, 0, none⟩), .int .i64 t] w fun e w' => e = .returned (.tuple #[]) ∧ ObjStep (PW q (putC c t) p (L ++ bitsOf (un t) 64)) S w w' := by
  have H := ObjStep.refl (I := PW q c p L) h
  obtain ⟨k0, k1, k2, kf⟩ := pjCells H
  have hu := u64_un t
  have hul := un_lt t
  have HP := Lib.hid (callR (Q := fun e => e = .returned (.tuple #[])) (objCd q c) H fun A h => put_any A p L (un t) 64 w h (by omega) hul)
  rw [hb] at k0
  clear H h kf hb hL hul k1 k2
  generalize un t = y at *
  go_enter Tryz.func189, Tryz.ntmps189
  go_wp2_with fail
  refine HP.out.mono ?_
  rintro e w2 ⟨rfl, h2⟩
  have HM := Lib.hid (moveTo_any (objW _ _) S q c t w w2 h2)
  clear HP h2 k0
  go_wp2_with fail
  refine HM.out.mono ?_
  rintro e w3 ⟨rfl, h3⟩
  replace h3 := Lib.hid h3
  clear HM
  go_wp2_with fail
  go_end0
  exact ⟨rfl, h3.out⟩
end Tm
end Go.Proofs.YtlgjbcmloochiaaGreatDoor
end

/- The program's coder of times (layer 8): Put, Get. -/
section
namespace Go.Proofs.YtlgjbcmloochiaaGreatDoor
open Go.RowKit Go.Sort
namespace Tm
open Bit Dsk Ob
set_option linter.unusedVariables false

set_option maxRecDepth 100000 in
set_option maxHeartbeats 3200000 in
theorem cdPut_next (S : Nat → Prop) (q p : Nat) (c : Cd) (L : List Bool) (t d x : Int) (w : World) (h : PW q c p L w S) (hb : c.begun = true) (hL : L.length ≤ 80000000000000) (hT : TabS S w) (hd : wr (t - c.t) = d) (hx : wr (d - c.d) = x) :
    Calls Tryz.prog 189 #[.pointer (some ⟨q, 0, none⟩), .pointer (some ⟨p, 0, none⟩), .int .i64 t] w fun e w' => e = .returned (.tuple #[]) ∧ ObjStep (PW q (putC c t) p (L ++ chB x)) S w w' := by
  have H := ObjStep.refl (I := PW q c p L) h
  obtain ⟨k0, k1, k2, kf⟩ := pjCells H
  have e1 : IntKind.i64.wrap (t - c.t) = d := (i64_wr _).trans hd
  have e2 : IntKind.i64.wrap (d - c.d) = x := (i64_wr _).trans hx
  have hin : In x := by rw [← hx]; exact wr_in _
  have HP := Lib.hid (callR (Q := fun e => e = .returned (.tuple #[])) (objCd q c) (notgR (stepDrew (thingPW _ _ _ _) H) hT.2 hT.1.lt) fun A h => putChange_any A p x L w.drew h.1 hin hL ⟨hT.1.upon (Upon.refl (fun _ => False) w).drew fun f => f, h.2⟩)
  rw [hb] at k0
  clear H h kf hb hL hT hd hx hin
  generalize chB x = M at *
  go_enter Tryz.func189, Tryz.ntmps189
  go_wp2_with fail
  go_still_tail 12, (by kernel_rfl)
  change wpList _ _ _ _ _ w.drew
  generalize w.drew = wd at *
  clear k0 k1 k2 e1 e2
  go_wp2_with fail
  refine HP.out.mono ?_
  rintro e w2 ⟨rfl, h2⟩
  have HM := Lib.hid (moveTo_any (objW _ _) S q c t w w2 h2)
  clear HP h2
  go_wp2_with fail
  refine HM.out.mono ?_
  rintro e w3 ⟨rfl, h3⟩
  replace h3 := Lib.hid h3
  clear HM
  go_wp2_with fail
  go_end0
  exact ⟨rfl, h3.out⟩
theorem cdPut_any (S : Nat → Prop) (q p : Nat) (c : Cd) (L : List Bool) (t : Int) (w : World) (h : PW q c p L w S) (hok : c.Ok) (hL : L.length ≤ 80000000000000) (ht : In t) (hT : TabS S w) :
    Calls Tryz.prog 189 #[.pointer (some ⟨q, 0, none⟩), .pointer (some ⟨p, 0, none⟩), .int .i64 t] w fun e w' => e = .returned (.tuple #[]) ∧ ObjStep (PW q (putC c t) p (L ++ putB c t)) S w w' := by
  unfold putB
  by_cases hb : c.begun = false
  · rw [if_pos hb]
    exact cdPut_first S q p c L t w h hb hL
  · rw [if_neg hb]
    exact cdPut_next S q p c L t _ _ w h (by simpa using hb) hL hT rfl rfl

/-! ### Get -/
end Tm
end Go.Proofs.YtlgjbcmloochiaaGreatDoor
end

/- The coders of layer 8 that a law has made; the statements' own 'works'. -/
section
namespace Go.Proofs.YtlgjbcmloochiaaGreatDoor
open Go.RowKit Go.Sort
namespace Tm
open Bit Dsk Ob
set_option linter.unusedVariables false

/-! ### rows of patterns -/
def I64 (l : List Int) : Prop := ∀ v ∈ l, In v
theorem I64.ok {l : List Int} (h : I64 l) : (putsC newC l).Ok := putsC_ok l ok_new h
theorem I64.snoc {l : List Int} (h : I64 l) {v : Int} (hv : In v) : I64 (l ++ [v]) := fun x hx => by
  rcases List.mem_append.1 hx with k | k
  · exact h x k
  · simp at k; rw [k]; exact hv
theorem CMade.own {w0 w : World} {e : Ending} {w' : World} (hb : Below w0.heap.size w0 w) (h : CMade w e w') : ∃ q, e = .returned (.pointer (some ⟨q, 0, none⟩)) ∧ Own (IsCd q newC) w0 w' := by
  obtain ⟨q, h1, h2, h3, h4⟩ := h
  exact ⟨q, h1, ⟨fun x => x = q, h2, fun b hS => by rw [hS]; exact Nat.le_trans hb.size h3⟩, below_of_upon hb h4⟩
/-- A coder is made beside another object. -/
theorem CMade.beside {I : Ob.Rel} (hI : Thing I) {w0 w : World} {e : Ending} {w' : World} (H : Own I w0 w) (h : CMade w e w') : ∃ q, e = .returned (.pointer (some ⟨q, 0, none⟩)) ∧ Own (Tens I (IsCd q newC)) w0 w' := by
  obtain ⟨q, h1, h2, h3, h4⟩ := h
  exact ⟨q, h1, Own.new hI H h2 (fun b hb => by rw [hb]; exact h3) h4⟩
theorem WMade.beside {I : Ob.Rel} (hI : Thing I) {w0 w : World} {e : Ending} {w' : World} (H : Own I w0 w) (h : WMade w e w') : ∃ q, e = .returned (.pointer (some ⟨q, 0, none⟩)) ∧ Own (Tens I (fun w S => IsW w S q [])) w0 w' := by
  obtain ⟨S, q, h1, h2, h3, h4⟩ := h
  exact ⟨q, h1, Own.new hI H h2 h3 h4⟩
/-- A reader of what was packed is made beside another object. -/
theorem RMade.beside {I : Ob.Rel} (hI : Thing I) {s : ByteArray} {L : List Bool} (hs : s.data.toList = pack L) {w0 w : World} {e : Ending} {w' : World} (H : Own I w0 w) (h : RMade s L.length w e w') : ∃ q, e = .returned (.pointer (some ⟨q, 0, none⟩)) ∧ Own (Tens I (fun w S => IsRK w S q L)) w0 w' := by
  obtain ⟨S, q, h1, h2, h3, h4⟩ := h
  exact ⟨q, h1, Own.new hI H (rkOf hs h2) h3 h4⟩

/-! ### works -/
end Tm
end Go.Proofs.YtlgjbcmloochiaaGreatDoor
end
