/- Parts: PTm2. -/
import Derived.Test.YtgmnhodajngchaaGreatDoorSPTm1
import Derived.Test.YtgmnhodajngchaaGreatDoorSPBit3
import Derived.Test.YtgmnhodajngchaaGreatDoorRows
import Derived.LaidMore
import Derived.Lib.LaidTab
import Derived.Lib.SmallJoins
import Derived.OpenShut
import Derived.Stop.Joined
import Derived.ProofKit
import Derived.Test.YtgmnhodajngchaaGreatDoorSPObj
import Derived.BigQuiet
import Derived.StillTailTactics
set_option maxRecDepth 100000
set_option linter.unusedVariables false
namespace Go.Proofs.YtgmnhodajngchaaGreatDoor
section
section
open Go.RowKit Go.Sort
namespace Tm
open Bit Dsk Ob
def lo (k : Nat) : Int := match k with | 0 => 0 | 1 => -63 | 2 => -255 | 3 => -2047 | _ => -9223372036854775808
def hi (k : Nat) : Int := match k with | 0 => 0 | 1 => 64 | 2 => 256 | 3 => 2048 | _ => 9223372036854775807
def four (k : Nat) : List Int := [lo k, hi k, ls k, (sz k : Int)]
theorem holds_iff {x : Int} (hx : In x) {k : Nat} (hk : k <= cls x) : (lo k <= x /\ x <= hi k) ↔ cls x = k := by
 unfold In at hx
 have h4 := cls_le x
 rcases cls_cases x with ⟨h, e⟩ | ⟨h, h1, h2, e⟩ | ⟨h, h1, h2, e⟩ | ⟨h, h1, h2, e⟩ | ⟨h, e⟩ <;> rw [e] at hk ⊢
 all_goals
  have l0 : lo 0 = 0 := rfl
  have l1 : lo 1 = -63 := rfl
  have l2 : lo 2 = -255 := rfl
  have l3 : lo 3 = -2047 := rfl
  have l4 : lo 4 = -9223372036854775808 := rfl
  have h0 : hi 0 = 0 := rfl
  have h1 : hi 1 = 64 := rfl
  have h2 : hi 2 = 256 := rfl
  have h3 : hi 3 = 2048 := rfl
  have h4 : hi 4 = 9223372036854775807 := rfl
  rcases five (show k <= 4 by omega) with rfl | rfl | rfl | rfl | rfl <;> omega
structure Tab (w : World) : Prop where
 at_ : ∀ k, k <= 4 -> ∀ j z, (four k)[j]? = some z -> w.cell? ⟨2, k * 4 + j, none⟩ = some (.int .i64 z)
theorem Tab.lt {w : World} (h : Tab w) : 2 < w.heap.size := World.block_lt_of_cell? w _ (h.at_ 0 (by decide) 0 (lo 0) rfl)
theorem Tab.upon {S : Nat -> Prop} {w w' : World} (h : Tab w) (hu : Upon S w w') (hS : ¬ S 2) : Tab w' := ⟨fun k hk j z hj => by
 have hc := h.at_ k hk j z hj
 rw [<- hc, World.cell?, World.cell?, hu.block _ h.lt hS]⟩
def TabS (S : Nat -> Prop) (w : World) : Prop := Tab w /\ ¬ S 2
theorem Tab.own {w0 w : World} (h : Tab w0) (hb : Below w0.heap.size w0 w) : Tab w := h.upon (Upon.of_below hb (fun _ => False)) fun f => f
theorem Tab.beside {w0 w : World} (h : Tab w0) (hb : Below w0.heap.size w0 w) {A : Nat -> Prop} (hA : ∀ b, A b -> w0.heap.size <= b) : TabS A w :=
 ⟨h.own hb, fun ha => Nat.lt_irrefl _ (Nat.lt_of_lt_of_le h.lt (hA _ ha))⟩
theorem Tab.row {w : World} (h : Tab w) {k : Nat} (hk : k <= 4) : w.cell? ⟨2, k * 4, none⟩ = some (.int .i64 (lo k)) /\ w.cell? ⟨2, k * 4 + 1, none⟩ = some (.int .i64 (hi k)) /\ w.cell? ⟨2, k * 4 + 2, none⟩ = some (.int .i64 (ls k)) /\ w.cell? ⟨2, k * 4 + 3, none⟩ = some (.int .i64 (sz k : Int)) :=
 ⟨h.at_ k hk 0 _ rfl, h.at_ k hk 1 _ rfl, h.at_ k hk 2 _ rfl, h.at_ k hk 3 _ rfl⟩
set_option maxHeartbeats 1600000 in
theorem holds_any (a b c d x : Int) (w : World) : Calls Tryz.prog 250 #[.agg #[.int .i64 a, .int .i64 b, .int .i64 c, .int .i64 d], .int .i64 x] w fun e w' => e = .returned (.bool (decide (a <= x) && decide (x <= b))) /\ New0 w w' := by
 have hend : Hid (New0 w (w.alloc (.cells #[.int .i64 a, .int .i64 b, .int .i64 c, .int .i64 d] 322 (0, 0)))) := Lib.hid ((Upon.refl _ w).alloc _)
 by_cases h : a <= x
 ·have hd : decide (a <= x) = true := decide_eq_true h
  go_enter Tryz.func250, Tryz.ntmps250
  go_wp2_with fail
  go_ret
  exact ⟨by simp [h], hend.out⟩
 ·have hd : decide (a <= x) = false := decide_eq_false h
  go_enter Tryz.func250, Tryz.ntmps250
  go_wp2_with fail
  go_ret
  exact ⟨by simp, hend.out⟩
theorem cells_of_rows {H : Type} {enc : TypeId × Value -> H} {P : Program} {w : World} {base : Nat} {sp : Nat -> Bool} {held : Bool} {fuel n : Nat} {t e : TypeId} {fs : Array Field} {r : Nat -> List Int} {cs : List Value} {p : List MemPlace}
  (ht : P.underlying t = some (.array n e)) (he : P.underlying e = some (.struct fs)) (hs : fs.size = 4) (hf : ∀ j (h : j < fs.size), P.underlying fs[j].type = some (.int .i64) /\ P.cellsOf fs[j].type = 1 /\ fs[j].offset = j) (hce : P.cellsOf e = 4)
  (h : DataW.trod enc P w base sp held fuel t cs = some (.agg ((List.range n).map fun k => .agg ((r k).map fun z => .lit (.int .i64 z))), p)) :
  ∀ k, k < n -> ∀ j z, (r k)[j]? = some z -> cs[k * 4 + j]? = some (.int .i64 z) := by
 obtain ⟨xs, m, -, hx, hl, hxl, hi⟩ := DataW.trod_array ht h
 intro k hk j z hj
 have hxs : xs.map (·.1) = (List.range n).map fun k => .agg ((r k).map fun z => .lit (.int .i64 z)) := by
  have := congrArg Prod.fst hx
  simpa using this.symm
 have h1 := hi k hk
 rw [hce] at h1
 have hkl : k < xs.length := by omega
 rw [List.getElem?_eq_getElem hkl] at h1
 have hd : xs[k].1 = .agg ((r k).map fun z => .lit (.int .i64 z)) := by
  have := congrArg (fun l => l[k]?) hxs
  simp only [List.getElem?_map, List.getElem?_eq_getElem hkl, List.getElem?_range hk, Option.map_some, Option.some.injEq] at this
  exact this
 obtain ⟨ys, m2, -, hy, hcl, hyl, hg⟩ := DataW.trod_struct he h1
 rw [hy] at hd
 simp only [DataW.agg.injEq] at hd
 have hjl : j < (r k).length := (List.getElem?_eq_some_iff.1 hj).1
 have hjy : j < ys.length := by
  have := congrArg List.length hd
  simp at this
  omega
 have hj4 : j < fs.size := by omega
 obtain ⟨hu, hc, ho⟩ := hf j hj4
 have h2 := hg j fs[j] (Array.getElem?_eq_getElem hj4)
 rw [List.getElem?_eq_getElem hjy, hc, ho] at h2
 obtain ⟨z', hc2, hz', -⟩ := DataW.trod_int hu h2
 have hz : ys[j].1 = .lit (.int .i64 z) := by
  have := congrArg (fun l => l[j]?) hd
  simp only [List.getElem?_map, List.getElem?_eq_getElem hjy, hj, Option.map_some, Option.some.injEq] at this
  exact this
 have e1 : z' = z := by
  have := congrArg Prod.fst hz'
  simp only [hz, DataW.lit.injEq, Lit.int.injEq, true_and] at this
  exact this.symm
 subst e1
 have := congrArg (·[0]?) hc2
 simpa [List.getElem?_take, List.getElem?_drop, show j < 4 by omega] using this
theorem tab_of_head {W : World} {rest : List (String × DataW Unit)} (h : laidMet Tryz.prog (("barograph/times.spans", Rows.laid_barograph_times_spans) :: rest) W) : Tab W := by
 have hg : Tryz.prog.globalNamed "barograph/times.spans" = some 2 := by kernel_rfl
 obtain ⟨ps, ⟨g', t', cs, fuel, p, q, hg', ht', hvar, hd, _, _⟩, _⟩ := h
 obtain rfl := Option.some.inj (hg.symm.trans hg')
 obtain rfl := Option.some.inj ((show (Tryz.prog.globals[2]?).map (·.type) = some 323 by kernel_rfl).symm.trans ht')
 have hd' := cells_of_rows (r := four) (n := 5) Tryz.underlying323 Tryz.underlying322 rfl (fun j h => match j, h with
  | 0, _ => ⟨Tryz.underlying2, by kernel_rfl, rfl⟩
  | 1, _ => ⟨Tryz.underlying2, by kernel_rfl, rfl⟩
  | 2, _ => ⟨Tryz.underlying2, by kernel_rfl, rfl⟩
  | 3, _ => ⟨Tryz.underlying3, by kernel_rfl, rfl⟩
  | j + 4, h => absurd h (by simp)) (by kernel_rfl) hd
 exact ⟨fun k hk j z hj => by
  have h1 := World.var?_cell hg hvar (k * 4 + j)
  rw [<- Array.getElem?_toList] at h1
  rw [hd' k (by omega) j z hj] at h1
  exact h1⟩
end Tm
end
section
open Go.RowKit Go.Sort
namespace Tm
open Bit Dsk Ob
theorem holdsT {a b c d x : Int} (h : a <= x /\ x <= b) (w : World) : Calls Tryz.prog 250 #[.agg #[.int .i64 a, .int .i64 b, .int .i64 c, .int .i64 d], .int .i64 x] w fun e w' => e = .returned (.bool true) /\ New0 w w' := by
 refine (holds_any a b c d x w).mono fun e w' ⟨he, hu⟩ => ⟨?_, hu⟩
 rw [he, decide_eq_true h.1, decide_eq_true h.2]; rfl
theorem holdsF {a b c d x : Int} (h : ¬ (a <= x /\ x <= b)) (w : World) : Calls Tryz.prog 250 #[.agg #[.int .i64 a, .int .i64 b, .int .i64 c, .int .i64 d], .int .i64 x] w fun e w' => e = .returned (.bool false) /\ New0 w w' := by
 refine (holds_any a b c d x w).mono fun e w' ⟨he, hu⟩ => ⟨?_, hu⟩
 rw [he]
 by_cases h1 : a <= x
 ·rw [decide_eq_true h1, decide_eq_false (fun h2 => h ⟨h1, h2⟩)]; rfl
 ·rw [decide_eq_false h1]; rfl
set_option maxRecDepth 100000 in
set_option maxHeartbeats 3200000 in
theorem placeOf_any (x : Int) (hx : In x) (w : World) (hT : Tab w) : Calls Tryz.prog 231 #[.int .i64 x] w fun e w' => e = .returned (.int .i64 (cls x : Int)) /\ New0 w w' := by
 have h4 := cls_le x
 have hI := Lib.hid (fun (k : Nat) (h : k <= cls x) => holds_iff hx h)
 replace hT := Lib.hid hT
 clear hx
 generalize cls x = m at *
 go_enter Tryz.func231, Tryz.ntmps231
 go_wp2_with fail
 go_loopw [3] (fun ov wr => ∃ j : Nat, ov = .int .i64 (j : Int) /\ Hid (j <= m) /\ Hid (New0 w wr)) (fun ov _ => 5 - (intOf ov).toNat)
 case atStart => exact ⟨0, rfl, Lib.hid (Nat.zero_le _), Lib.hid (Upon.refl _ w)⟩
 case round =>
  obtain ⟨j, rfl, hj, hst⟩ := hrel
  have hj4 : j <= 4 := Nat.le_trans hj.out h4
  have hh := hI.out j hj.out
  have hT' := hT.out.upon hst.out fun f => f
  clear hI hT
  obtain ⟨c0, c1, c2, c3⟩ := hT'.row hj4
  clear hT'
  by_cases hc : m = j
  ·have hy := hh.2 hc
   have HH := Lib.hid (fun w => holdsT (c := ls j) (d := sz j) hy w)
   replace hc := Lib.hid hc
   clear hh h4 hj hy
   go_wp2_with fail
   refine (HH.out _).mono ?_
   rintro e w2 ⟨rfl, hu2⟩
   have hu := Lib.hid (hst.out.trans hu2)
   clear HH hst hu2 c0 c1 c2 c3
   go_wp2_with fail
   go_ret
   exact ⟨ret_int (by rw [hc.out]), hu.out⟩
  ·have hy := fun h => hc (hh.1 h)
   have HH := Lib.hid (fun w => holdsF (c := ls j) (d := sz j) hy w)
   have hlt : Hid (j + 1 <= m) := Lib.hid (by have := hj.out; omega)
   have hj3 : j < 4 := by have := hj.out; omega
   clear hh hc h4 hj hy
   go_wp2_with fail
   refine (HH.out _).mono ?_
   rintro e w2 ⟨rfl, hu2⟩
   have hu := Lib.hid (hst.out.trans hu2)
   clear HH hst hu2 c0 c1 c2 c3
   go_wp2_with fail
   go_roundw
   case rel => exact ⟨j + 1, by go_num, hlt, hu⟩
   case measure => simp [intOf]; omega
abbrev Rd (p : Nat) (K : List Bool) : Ob.Rel := fun w S => IsRK w S p K
def Hg (p n : Nat) (S : Nat -> Prop) (w : World) (o : Option (Nat × List Bool)) (e : Ending) (w' : World) : Prop :=
 match o with
 | some (k, R) => e = .returned (.tuple #[.int .i64 (k : Int), .bool true]) /\ ObjStep (Rd p R) S w w'
 | none => e = .returned (.tuple #[.int .i64 0, .bool false]) /\ ∃ K', ObjStep (Rd p K') S w w' /\ K'.length <= n
theorem Hg.off {p n : Nat} {K' : List Bool} {S : Nat -> Prop} {w w' : World} {o : Option (Nat × List Bool)} (ho : o = none) (h : ObjStep (Rd p K') S w w') (hn : K'.length <= n) : Hg p n S w o (.returned (.tuple #[.int .i64 0, .bool false])) w' := by
 subst ho; exact ⟨rfl, K', h, hn⟩
theorem Hg.yes {p n k : Nat} {R : List Bool} {S : Nat -> Prop} {w w' : World} {o : Option (Nat × List Bool)} (ho : o = some (k, R)) (h : ObjStep (Rd p R) S w w') : Hg p n S w o (.returned (.tuple #[.int .i64 (k : Int), .bool true])) w' := by
 subst ho; exact ⟨rfl, h⟩
set_option maxRecDepth 100000 in
set_option maxHeartbeats 3200000 in
theorem getHead_any (S : Nat -> Prop) (p : Nat) (K : List Bool) (w : World) (h : IsRK w S p K) :
  Calls Tryz.prog 265 #[.pointer (some ⟨p, 0, none⟩)] w (Hg p K.length S w (lead1 4 K)) := by
 have H := Lib.hid (ObjStep.refl (I := Rd p K) h)
 clear h
 obtain ⟨o, ho⟩ : ∃ o, lead1 4 K = o := ⟨_, rfl⟩
 rw [ho]
 replace ho := Lib.hid ho
 go_enter Tryz.func265, Tryz.ntmps265
 go_wp2_with fail
 go_loopw [7] (fun ov wr => ∃ (j : Nat) (K' : List Bool), ov = .int .i64 (j : Int) /\ Hid (Ld K j K' /\ K'.length <= K.length) /\ ObjStep (Rd p K') S w wr) (fun ov _ => 4 - (intOf ov).toNat)
 case atStart => exact ⟨0, K, rfl, Lib.hid ⟨Ld.start K, Nat.le_refl _⟩, H.out⟩
 case round =>
  obtain ⟨j, K', rfl, hl, hst⟩ := hrel
  have hj4 := hl.out.1.1
  by_cases hlt : j < 4
  ·match K', hl, hst with
   | [], hl, hst =>
    have hon : Hid (o = none) := Lib.hid (ho.out.symm.trans (hl.out.1.none hlt rfl))
    have HG := Lib.hid (rkStepNo hst 1 (by simp))
    clear hst H
    go_wp2_with fail
    refine HG.out.mono ?_
    rintro e w2 ⟨rfl, h2⟩
    replace h2 := Lib.hid h2
    clear HG
    go_wp2_with fail
    go_ret2
    exact Hg.off hon.out h2.out (Nat.zero_le _)
   | false :: R, hl, hst =>
    have hon : Hid (o = some (j, R)) := Lib.hid (ho.out.symm.trans (hl.out.1.zero hlt))
    have HG := Lib.hid (rkStep (x := 0) (K' := R) hst 1 (by omega) (by simp) (by rfl) (by rfl))
    clear hst H
    go_wp2_with fail
    refine HG.out.mono ?_
    rintro e w2 ⟨rfl, h2⟩
    replace h2 := Lib.hid h2
    clear HG
    go_wp2_with fail
    go_ret2
    exact Hg.yes hon.out h2.out
   | true :: R, hl, hst =>
    have HG := Lib.hid (rkStep (x := 1) (K' := R) hst 1 (by omega) (by simp) (by rfl) (by rfl))
    clear hst H
    go_wp2_with fail
    refine HG.out.mono ?_
    rintro e w2 ⟨rfl, h2⟩
    replace h2 := Lib.hid h2
    clear HG
    go_wp2_with fail
    go_roundw
    case rel => exact ⟨j + 1, R, by go_num, Lib.hid ⟨hl.out.1.one hlt, by have := hl.out.2; simp at this; omega⟩, h2.out⟩
    case measure => simp [intOf]; omega
  ·obtain rfl : j = 4 := by omega
   have hon : Hid (o = some (4, K')) := Lib.hid (ho.out.symm.trans hl.out.1.done)
   replace hst := Lib.hid hst
   clear H
   go_wp2_with fail
   go_ret2
   exact Hg.yes hon.out hst.out
def gch (K : List Bool) : Option (Int × List Bool) :=
 match lead1 4 K with
 | none => none
 | some (k, R) => if sz k <= R.length /\ cls (num k (R.take (sz k))) = k then some (num k (R.take (sz k)), R.drop (sz k)) else none
theorem gch_none {K : List Bool} (h : lead1 4 K = none) : gch K = none := by unfold gch; rw [h]
theorem gch_short {K R : List Bool} {k : Nat} (h : lead1 4 K = some (k, R)) (hs : ¬ sz k <= R.length) : gch K = none := by unfold gch; rw [h]; exact if_neg fun hh => hs hh.1
theorem gch_other {K R : List Bool} {k : Nat} (h : lead1 4 K = some (k, R)) (hc : cls (num k (R.take (sz k))) ≠ k) : gch K = none := by unfold gch; rw [h]; exact if_neg fun hh => hc hh.2
theorem gch_some {K R : List Bool} {k : Nat} (h : lead1 4 K = some (k, R)) (hs : sz k <= R.length) (hc : cls (num k (R.take (sz k))) = k) : gch K = some (num k (R.take (sz k)), R.drop (sz k)) := by unfold gch; rw [h]; exact if_pos ⟨hs, hc⟩
theorem getR_gch {c : Cd} (hc : c.Ok) (hb : c.begun = true) (K : List Bool) : (gch K = none /\ getR c K = none) \/ ∃ x n, gch K = some (x, K.drop n) /\ getR c K = some (tim c x, n) := by
 cases hl : lead1 4 K with
 | none => exact .inl ⟨gch_none hl, getR_off hb hl⟩
 | some y =>
  obtain ⟨k, R⟩ := y
  have h1 := getR_is hc hb hl
  by_cases hh : sz k <= R.length /\ cls (num k (R.take (sz k))) = k
  ·rw [if_pos hh] at h1
   refine .inr ⟨_, _, ?_, h1⟩
   rw [gch_some hl hh.1 hh.2, (lead1_is hl).2, List.drop_append]
   simp
  ·rw [if_neg hh] at h1
   refine .inl ⟨?_, h1⟩
   unfold gch; rw [hl]; exact if_neg hh
theorem rkBox {S : Nat -> Prop} {w0 w wb : World} {p o : Nat} {K K' : List Bool} {x : Nat} {v : Value} (H : ObjStep (Rd p K) S w0 w) (hb : New0 w wb) (hc : wb.cell? ⟨w.heap.size, o, none⟩ = some v) (m : Nat) (hm : m <= 64) (hle : m <= K.length) (hx : numOf (K.take m) = x) (e : K.drop m = K') :
  Calls Tryz.prog 259 #[.pointer (some ⟨p, 0, none⟩), .int .i64 (m : Int)] wb fun e w' => e = .returned (.tuple #[.int .u64 (x : Int), .bool true]) /\ ObjStep (Rd p K') S w0 w' /\ w'.cell? ⟨w.heap.size, o, none⟩ = some v := by
 subst e; subst hx
 obtain ⟨A, h, hk⟩ := H.get
 have hn : ¬ A w.heap.size := fun ha => Nat.lt_irrefl _ ((objRK p K).lt w A h _ ha)
 have h2 : IsRK wb A p K := (objRK p K).kept _ _ A h (fun b hb2 => hb.block b ((objRK p K).lt w A h b hb2) fun f => f) hb.size
 exact (rkGet_ok A p K m wb h2 hm hle).mono fun e w' ⟨he, hs⟩ => ⟨he, hk _ _ (preNew hb hs), cellBeside hs hn hc⟩
def Gc (p n : Nat) (S : Nat -> Prop) (w : World) (o : Option (Int × List Bool)) (e : Ending) (w' : World) : Prop :=
 match o with
 | some (x, R) => e = .returned (.tuple #[.int .i64 x, .bool true]) /\ ObjStep (Rd p R) S w w'
 | none => e = .returned (.tuple #[.int .i64 0, .bool false]) /\ ∃ K', ObjStep (Rd p K') S w w' /\ K'.length <= n
theorem Gc.off {p n : Nat} {K' : List Bool} {S : Nat -> Prop} {w w' : World} {o : Option (Int × List Bool)} (ho : o = none) (h : ObjStep (Rd p K') S w w') (hn : K'.length <= n) : Gc p n S w o (.returned (.tuple #[.int .i64 0, .bool false])) w' := by
 subst ho; exact ⟨rfl, K', h, hn⟩
theorem Gc.yes {p n : Nat} {x : Int} {R : List Bool} {S : Nat -> Prop} {w w' : World} {o : Option (Int × List Bool)} (ho : o = some (x, R)) (h : ObjStep (Rd p R) S w w') : Gc p n S w o (.returned (.tuple #[.int .i64 x, .bool true])) w' := by
 subst ho; exact ⟨rfl, h⟩
set_option maxRecDepth 100000 in
set_option maxHeartbeats 3200000 in
theorem getChange_any (S : Nat -> Prop) (p : Nat) (K : List Bool) (w : World) (h : IsRK w S p K) (hT : TabS S w) :
  Calls Tryz.prog 260 #[.pointer (some ⟨p, 0, none⟩)] w (Gc p K.length S w (gch K)) := by
 have HA := getHead_any S p K w h
 clear h
 cases hl : lead1 4 K with
 | none =>
  have hon := Lib.hid (gch_none hl)
  rw [hl] at HA
  replace HA := Lib.hid HA
  generalize gch K = o at *
  clear hl hT
  go_enter Tryz.func260, Tryz.ntmps260
  go_wp2_with fail
  refine HA.out.mono ?_
  rintro e w2 ⟨rfl, K', h2, hn2⟩
  replace h2 := Lib.hid h2
  replace hn2 := Lib.hid hn2
  clear HA
  go_wp2_with fail
  go_ret2
  exact Gc.off hon.out h2.out hn2.out
 | some y =>
  obtain ⟨k, R⟩ := y
  have hk := (lead1_is hl).1
  have hRl : Hid (R.length <= K.length) := Lib.hid (by rw [(lead1_is hl).2, List.length_append]; omega)
  have hR2 : Hid ((R.drop (sz k)).length <= K.length) := Lib.hid (by rw [List.length_drop]; have := hRl.out; omega)
  have hz : sz k <= 64 := by rcases five hk with rfl | rfl | rfl | rfl | rfl <;> decide
  rw [hl] at HA
  replace HA := Lib.hid HA
  replace hT := Lib.hid hT
  replace hl := Lib.hid hl
  by_cases hs : sz k <= R.length
  ·obtain ⟨X, hX⟩ : ∃ X, numOf (R.take (sz k)) = X := ⟨_, rfl⟩
   have i1 : IntKind.i64.wrap (X : Int) = wr (X : Int) := i64_wr _
   have i2 : wrap64 (wr (X : Int) - ls k) = num k (R.take (sz k)) := by rw [w64_wr]; unfold num; rw [hX]
   have hin := num_in k (R.take (sz k))
   have hyes := Lib.hid (fun hc => gch_some hl.out hs hc)
   have hno := Lib.hid (fun hc => gch_other hl.out hc)
   have hst := Lib.hid (fun (w3 wb : World) v (H : ObjStep (Rd p R) S w w3) hb hc => rkBox (x := X) (K' := R.drop (sz k)) (wb := wb) (o := 2) (v := v) H hb hc (sz k) hz hs hX rfl)
   generalize num k (R.take (sz k)) = y at *
   have HP := Lib.hid (fun w hT => placeOf_any y hin w hT)
   generalize cls y = m at *
   generalize R.drop (sz k) = R2 at *
   generalize gch K = o at *
   clear hl hs hX hin
   go_enter Tryz.func260, Tryz.ntmps260
   go_wp2_with fail
   refine HA.out.mono ?_
   rintro e w2 ⟨rfl, h2⟩
   obtain ⟨c0, c1, c2, c3⟩ := (hT.out.1.upon h2.upon hT.out.2).row hk
   have hbox : New0 w2 (w2.alloc (.cells #[.int .i64 (lo k), .int .i64 (hi k), .int .i64 (ls k), .int .i64 (sz k : Int)] 322 (0, 0))) := (Upon.refl _ w2).alloc _
   have hb2 : (w2.alloc (.cells #[.int .i64 (lo k), .int .i64 (hi k), .int .i64 (ls k), .int .i64 (sz k : Int)] 322 (0, 0))).cell? ⟨w2.heap.size, 2, none⟩ = some (.int .i64 (ls k)) := by rw [Lib.cell_of_heap (cell_new w2 _)]; rfl
   have HB := Lib.hid (hst.out w2 _ _ h2 hbox hb2)
   clear hst h2 hbox hb2 HA
   go_wp2_with fail
   refine HB.out.mono ?_
   rintro e w4 ⟨rfl, h4, b2⟩
   have hT4 := hT.out.1.upon h4.upon hT.out.2
   have HC := Lib.hid (HP.out w4 hT4)
   clear HB HP hT c0 c1 c2 c3 hT4
   go_wp2_with fail
   refine HC.out.mono ?_
   rintro e w5 ⟨rfl, hu5⟩
   have h5 := Lib.hid (stepNew (objRK _ _) h4 hu5)
   clear HC h4 hu5 b2
   by_cases hm : m = k
   ·have hd : ((m : Int) != (k : Int)) = false := by rw [hm]; simp
    have ho := Lib.hid (hyes.out hm)
    clear hyes hno hm
    go_wp2_with fail
    go_ret2
    exact Gc.yes ho.out h5.out
   ·have hd : ((m : Int) != (k : Int)) = true := by rw [bne_iff_ne]; omega
    have ho := Lib.hid (hno.out hm)
    clear hyes hno hm
    go_wp2_with fail
    go_ret2
    exact Gc.off ho.out h5.out hR2.out
  ·have ho := Lib.hid (gch_short hl.out hs)
   generalize gch K = o at *
   clear hl
   go_enter Tryz.func260, Tryz.ntmps260
   go_wp2_with fail
   refine HA.out.mono ?_
   rintro e w2 ⟨rfl, h2⟩
   obtain ⟨c0, c1, c2, c3⟩ := (hT.out.1.upon h2.upon hT.out.2).row hk
   have hbox : New0 w2 (w2.alloc (.cells #[.int .i64 (lo k), .int .i64 (hi k), .int .i64 (ls k), .int .i64 (sz k : Int)] 322 (0, 0))) := (Upon.refl _ w2).alloc _
   have HB := Lib.hid (rkStepNo (stepNew (objRK _ _) h2 hbox) (sz k) (by omega))
   clear h2 hbox HA hs hT
   go_wp2_with fail
   refine HB.out.mono ?_
   rintro e w4 ⟨rfl, h4⟩
   replace h4 := Lib.hid h4
   clear HB c0 c1 c2 c3
   go_wp2_with fail
   go_ret2
   exact Gc.off ho.out h4.out hRl.out
def IsCd (q : Nat) (c : Cd) : Ob.Rel := fun w S => w.heap[q]? = some (.cells (cCells c) 302 (0, 0)) /\ ∀ x, S x ↔ x = q
theorem objCd (q : Nat) (c : Cd) : Thing (IsCd q c) := ⟨fun w w' S h hk _ => ⟨(hk q ((h.2 q).2 rfl)).trans h.1, h.2⟩, fun w S h x hx => by rw [(h.2 x).1 hx]; exact (Array.getElem?_eq_some_iff.1 h.1).1⟩
theorem cd3 {w : World} {q : Nat} {c : Cd} (h : w.heap[q]? = some (.cells (cCells c) 302 (0, 0))) :
  w.cell? ⟨q, 0, none⟩ = some (.bool c.begun) /\ w.cell? ⟨q, 1, none⟩ = some (.int .i64 c.t) /\ w.cell? ⟨q, 2, none⟩ = some (.int .i64 c.d) /\ ∀ o, w.frozen? ⟨q, o, none⟩ = false := by
 refine ⟨?_, ?_, ?_, fun o => Lib.frozen_of_heap h o⟩ <;> (rw [Lib.cell_of_heap h]; rfl)
theorem cdSet {w : World} {A : Nat -> Prop} {q o : Nat} {c c' : Cd} {v : Value} (h : IsCd q c w A) (he : (cCells c).setIfInBounds o v = cCells c') : ObjStep (IsCd q c') A w (w.setCell ⟨q, o, none⟩ v) :=
 stepCell ((h.2 q).2 rfl) ⟨by rw [<- he]; simp [World.setCell, Array.getElem?_modify, h.1], h.2⟩
def CMade (w : World) (e : Ending) (w' : World) : Prop := ∃ q, e = .returned (.pointer (some ⟨q, 0, none⟩)) /\ IsCd q newC w' (fun x => x = q) /\ w.heap.size <= q /\ New0 w w'
set_option maxHeartbeats 800000 in
theorem new_any (w : World) (hT : Tab w) : Calls Tryz.prog 192 #[] w (CMade w) := by
 have H : Hid (CMade w (.returned (.pointer (some ⟨w.heap.size, 0, none⟩))) (w.alloc (.cells #[.bool false, .int .i64 0, .int .i64 0] 302 (0, 0)))) := Lib.hid
  ⟨w.heap.size, rfl, ⟨cell_new w _, fun x => Iff.rfl⟩, Nat.le_refl _, (Upon.refl _ w).alloc _⟩
 clear hT
 go_enter Tryz.func192, Tryz.ntmps192
 go_wp2
 go_ret
 exact H.out
theorem notg {I : Ob.Rel} {S : Nat -> Prop} {w0 w : World} {g : Nat} (H : ObjStep I S w0 w) (hg : ¬ S g) (hl : g < w0.heap.size) : ObjStep (fun w T => I w T /\ ¬ T g) S w0 w := by
 obtain ⟨⟨S', h1, h2, h3⟩, hu⟩ := H
 exact ⟨⟨S', ⟨h1, fun h => by rcases h3 g h with k | k; exact hg k; omega⟩, h2, h3⟩, hu⟩
theorem notgR {I J : Ob.Rel} {S : Nat -> Prop} {w0 w : World} {g : Nat} (H : ObjStep (Tens I J) S w0 w) (hg : ¬ S g) (hl : g < w0.heap.size) : ObjStep (Tens I (fun w B => J w B /\ ¬ B g)) S w0 w :=
 (notg H hg hl).mono fun T ⟨⟨A, B, h1, h2, h3, h4⟩, hn⟩ => ⟨A, B, h1, ⟨h2, fun hb => hn ((h4 _).2 (.inr hb))⟩, h3, h4⟩
abbrev PJ (q : Nat) (c : Cd) (J : Ob.Rel) : Ob.Rel := Tens (IsCd q c) J
theorem pjCells {J : Ob.Rel} {S : Nat -> Prop} {w0 w : World} {q : Nat} {c : Cd} (H : ObjStep (PJ q c J) S w0 w) :
  w.cell? ⟨q, 0, none⟩ = some (.bool c.begun) /\ w.cell? ⟨q, 1, none⟩ = some (.int .i64 c.t) /\ w.cell? ⟨q, 2, none⟩ = some (.int .i64 c.d) /\ ∀ o, w.frozen? ⟨q, o, none⟩ = false := by
 obtain ⟨A, h⟩ := seeL H
 exact cd3 h.1
theorem pjSet {J : Ob.Rel} (hJ : Thing J) {S : Nat -> Prop} {w0 w : World} {q o : Nat} {c c' : Cd} {v : Value} (H : ObjStep (PJ q c J) S w0 w) (he : (cCells c).setIfInBounds o v = cCells c') : ObjStep (PJ q c' J) S w0 (w.setCell ⟨q, o, none⟩ v) :=
 stepL hJ H fun A h => cdSet h he
set_option maxRecDepth 100000 in
set_option maxHeartbeats 3200000 in
theorem moveTo_any {J : Ob.Rel} (hJ : Thing J) (S : Nat -> Prop) (q : Nat) (c : Cd) (t : Int) (w0 w : World) (H : ObjStep (PJ q c J) S w0 w) :
  Calls Tryz.prog 219 #[.pointer (some ⟨q, 0, none⟩), .int .i64 t] w fun e w' => e = .returned (.tuple #[]) /\ ObjStep (PJ q (putC c t) J) S w0 w' := by
 obtain ⟨k0, k1, k2, kf⟩ := pjCells H
 have f0 := kf 0
 have f1 := kf 1
 have f2 := kf 2
 cases hb : c.begun with
 | false =>
  have e1 : putC c t = ⟨true, t, c.d⟩ := by unfold putC; rw [if_pos hb]
  have H1 := pjSet hJ (o := 0) (v := .bool true) (c' := { c with begun := true }) H rfl
  have H2 := Lib.hid (pjSet hJ (o := 1) (v := .int .i64 t) (c' := ⟨true, t, c.d⟩) H1 rfl)
  obtain ⟨m0, m1, m2, mf⟩ := pjCells H1
  have g1 := mf 1
  rw [hb] at k0
  rw [e1]
  clear H H1 kf mf hb e1
  go_enter Tryz.func219, Tryz.ntmps219
  go_wp2_with fail
  go_end0
  exact ⟨rfl, H2.out⟩
 | true =>
  have e1 : putC c t = ⟨true, t, wr (t - c.t)⟩ := by unfold putC; rw [if_neg (by simp [hb])]
  have hw := w64_wr (t - c.t)
  have H0 := pjSet hJ (o := 2) (v := .int .i64 (wr (t - c.t))) (c' := { c with d := wr (t - c.t) }) H rfl
  have H1 := pjSet hJ (o := 0) (v := .bool true) (c' := { c with begun := true, d := wr (t - c.t) }) H0 rfl
  have H2 := Lib.hid (pjSet hJ (o := 1) (v := .int .i64 t) (c' := ⟨true, t, wr (t - c.t)⟩) H1 rfl)
  obtain ⟨l0, l1, l2, lf⟩ := pjCells H0
  obtain ⟨m0, m1, m2, mf⟩ := pjCells H1
  have g0 := lf 0
  have g1 := mf 1
  rw [hb] at k0
  rw [e1]
  clear H H0 H1 kf lf mf hb e1
  generalize wr (t - c.t) = d at *
  go_enter Tryz.func219, Tryz.ntmps219
  go_wp2_with fail
  go_end0
  exact ⟨rfl, H2.out⟩
end Tm
end
section
open Go.RowKit Go.Sort
namespace Tm
open Bit Dsk Ob
abbrev PR (q : Nat) (c : Cd) (p : Nat) (K : List Bool) : Ob.Rel := Tens (IsCd q c) (fun w S => IsRK w S p K)
theorem thingPR (q : Nat) (c : Cd) (p : Nat) (K : List Bool) : Thing (PR q c p K) := Tens.ob (objCd q c) (objRK p K)
abbrev PX (q : Nat) (p : Nat) : Ob.Rel := Tens (fun w S => ∃ c, IsCd q c w S) (fun w S => ∃ K', IsRK w S p K')
theorem px_of {q p : Nat} {c : Cd} {K' : List Bool} {S : Nat -> Prop} {w w' : World} (h : ObjStep (PR q c p K') S w w') : ObjStep (PX q p) S w w' :=
 h.mono fun T h => Tens.mapL (fun A h => ⟨c, h⟩) (Tens.mapR (fun A h => ⟨K', h⟩) h)
def Gp (q : Nat) (c : Cd) (p : Nat) (K : List Bool) (S : Nat -> Prop) (w : World) (o : Option (Int × Nat)) (e : Ending) (w' : World) : Prop :=
 match o with
 | some (v, n) => e = .returned (.tuple #[.int .i64 v, .bool true]) /\ ObjStep (PR q (putC c v) p (K.drop n)) S w w'
 | none => e = .returned (.tuple #[.int .i64 0, .bool false]) /\ ObjStep (PX q p) S w w'
def Gt0 (q : Nat) (c : Cd) (p : Nat) (K : List Bool) (S : Nat -> Prop) (w : World) (o : Option (Int × Nat)) (e : Ending) (w' : World) : Prop :=
 match o with
 | some (v, n) => e = .returned (.tuple #[.int .i64 v, .bool true]) /\ ObjStep (PR q c p (K.drop n)) S w w'
 | none => (∃ x : Int, e = .returned (.tuple #[.int .i64 x, .bool false])) /\ ∃ K', ObjStep (PR q c p K') S w w' /\ (K = [] -> K' = [])
theorem Gt0.no {q p : Nat} {c : Cd} {K K' : List Bool} {S : Nat -> Prop} {w w' : World} {o : Option (Int × Nat)} {x : Int} (ho : o = none) (h : ObjStep (PR q c p K') S w w') (hK : K = [] -> K' = []) : Gt0 q c p K S w o (.returned (.tuple #[.int .i64 x, .bool false])) w' := by
 subst ho; exact ⟨⟨x, rfl⟩, K', h, hK⟩
theorem Gt0.yes {q p n : Nat} {c : Cd} {K : List Bool} {S : Nat -> Prop} {w w' : World} {o : Option (Int × Nat)} {x v : Int} (ho : o = some (v, n)) (hx : x = v) (h : ObjStep (PR q c p (K.drop n)) S w w') : Gt0 q c p K S w o (.returned (.tuple #[.int .i64 x, .bool true])) w' := by
 subst ho; subst hx; exact ⟨rfl, h⟩
set_option maxRecDepth 100000 in
set_option maxHeartbeats 3200000 in
theorem getTime_first (S : Nat -> Prop) (q p : Nat) (c : Cd) (K : List Bool) (w : World) (h : PR q c p K w S) (hb : c.begun = false) :
  Calls Tryz.prog 248 #[.pointer (some ⟨q, 0, none⟩), .pointer (some ⟨p, 0, none⟩)] w (Gt0 q c p K S w (getR c K)) := by
 have H := ObjStep.refl (I := PR q c p K) h
 obtain ⟨k0, k1, k2, kf⟩ := pjCells H
 have hg := getR_first hb K
 rw [hb] at k0
 by_cases hle : 64 <= K.length
 ·rw [if_pos hle] at hg
  have hi := i64_wr (numOf (K.take 64) : Int)
  have HP := Lib.hid (callR (Q := fun e => e = .returned (.tuple #[.int .u64 (numOf (K.take 64) : Int), .bool true])) (objCd q c) H fun A h => rkGet_ok A p K 64 w h (by omega) hle)
  have hg := Lib.hid hg
  clear H h kf hb hle k1 k2
  generalize numOf (K.take 64) = X at *
  generalize wr (X : Int) = Y at *
  generalize getR c K = o at *
  go_enter Tryz.func248, Tryz.ntmps248
  go_wp2_with fail
  refine HP.out.mono ?_
  rintro e w2 ⟨rfl, h2⟩
  replace h2 := Lib.hid h2
  clear HP k0
  go_wp2_with fail
  go_ret2
  exact Gt0.yes hg.out rfl h2.out
 ·rw [if_neg hle] at hg
  have HP := Lib.hid (callR (Q := fun e => e = .returned (.tuple #[.int .u64 0, .bool false])) (objCd q c) H fun A h => rkGet_no A p K 64 w h (by omega))
  have hg := Lib.hid hg
  clear H h kf hb hle k1 k2
  generalize getR c K = o at *
  go_enter Tryz.func248, Tryz.ntmps248
  go_wp2_with fail
  refine HP.out.mono ?_
  rintro e w2 ⟨rfl, h2⟩
  replace h2 := Lib.hid h2
  clear HP k0
  go_wp2_with fail
  go_ret2
  exact Gt0.no hg.out h2.out id
def Gj (q : Nat) (c : Cd) (p n : Nat) (S : Nat -> Prop) (w : World) (o : Option (Int × List Bool)) (e : Ending) (w' : World) : Prop :=
 match o with
 | some (x, R) => e = .returned (.tuple #[.int .i64 x, .bool true]) /\ ObjStep (PR q c p R) S w w'
 | none => e = .returned (.tuple #[.int .i64 0, .bool false]) /\ ∃ K', ObjStep (PR q c p K') S w w' /\ K'.length <= n
theorem prChange {S : Nat -> Prop} {q p : Nat} {c : Cd} {K : List Bool} {w : World} (h : PR q c p K w S) (hT : TabS S w) :
  Calls Tryz.prog 260 #[.pointer (some ⟨p, 0, none⟩)] w (Gj q c p K.length S w (gch K)) := by
 have H := ObjStep.refl (I := PR q c p K) h
 obtain ⟨T, h1, go⟩ := (notgR H hT.2 hT.1.lt).get
 obtain ⟨A, ⟨h2, hn⟩, go2⟩ := h1.right (objCd q c)
 refine (getChange_any A p K w h2 ⟨hT.1, hn⟩).mono fun e w' hh => ?_
 cases hg : gch K with
 | none =>
  rw [hg] at hh
  obtain ⟨he, K', hs, hl⟩ := hh
  exact ⟨he, K', go _ _ (go2 _ _ hs), hl⟩
 | some y =>
  obtain ⟨x, R⟩ := y
  rw [hg] at hh
  exact ⟨hh.1, go _ _ (go2 _ _ hh.2)⟩
set_option maxRecDepth 100000 in
set_option maxHeartbeats 3200000 in
theorem getTime_next (S : Nat -> Prop) (q p : Nat) (c : Cd) (K : List Bool) (w : World) (h : PR q c p K w S) (hok : c.Ok) (hb : c.begun = true) (hT : TabS S w) :
  Calls Tryz.prog 248 #[.pointer (some ⟨q, 0, none⟩), .pointer (some ⟨p, 0, none⟩)] w (Gt0 q c p K S w (getR c K)) := by
 have H := ObjStep.refl (I := PR q c p K) h
 obtain ⟨k0, k1, k2, kf⟩ := pjCells H
 rw [hb] at k0
 have HP := prChange h hT
 have hs1 := i64_wr (c.t + c.d)
 rcases getR_gch hok hb K with ⟨h1, h2⟩ | ⟨x, n, h1, h2⟩
 ·rw [h1] at HP
  rw [h2]
  replace HP := Lib.hid HP
  have hx := i64_wr (wr (c.t + c.d) + 0)
  clear H h kf hb hT hok h1 h2 k1 k2
  generalize wr (c.t + c.d) = a at *
  generalize wr (a + 0) = b at *
  go_enter Tryz.func248, Tryz.ntmps248
  go_wp2_with fail
  refine HP.out.mono ?_
  rintro e w2 ⟨rfl, K', h2, hl⟩
  obtain ⟨k0, k1, k2, kf⟩ := pjCells h2
  have hend := Lib.hid (fun n => h2.upon0 (thingPR _ _ _ _) (upon_drewN _ w2 n))
  replace hl := Lib.hid hl
  clear HP h2 kf
  go_wp2_with fail
  go_quiet (fail)
  go_wp2_with fail
  go_ret2
  exact Gt0.no rfl (hend.out _) (fun e => by have := hl.out; rw [e] at this; exact List.length_eq_zero_iff.1 (Nat.le_zero.1 this))
 ·rw [h1] at HP
  rw [h2]
  replace HP := Lib.hid HP
  have hx : IntKind.i64.wrap (wr (c.t + c.d) + x) = tim c x := i64_wr _
  clear H h kf hb hT hok h1 h2 k1 k2
  generalize wr (c.t + c.d) = a at *
  generalize tim c x = b at *
  go_enter Tryz.func248, Tryz.ntmps248
  go_wp2_with fail
  refine HP.out.mono ?_
  rintro e w2 ⟨rfl, h2⟩
  obtain ⟨k0, k1, k2, kf⟩ := pjCells h2
  have hend := Lib.hid (fun n => h2.upon0 (thingPR _ _ _ _) (upon_drewN _ w2 n))
  clear HP h2 kf
  go_wp2_with fail
  go_quiet (fail)
  go_wp2_with fail
  go_ret2
  exact Gt0.yes rfl rfl (hend.out _)
theorem getTime_any (S : Nat -> Prop) (q p : Nat) (c : Cd) (K : List Bool) (w : World) (h : PR q c p K w S) (hok : c.Ok) (hT : TabS S w) :
  Calls Tryz.prog 248 #[.pointer (some ⟨q, 0, none⟩), .pointer (some ⟨p, 0, none⟩)] w (Gt0 q c p K S w (getR c K)) := by
 by_cases hb : c.begun = false
 ·exact getTime_first S q p c K w h hb
 ·exact getTime_next S q p c K w h hok (by simpa using hb) hT
def Gp1 (q : Nat) (c : Cd) (p : Nat) (K : List Bool) (S : Nat -> Prop) (w : World) (o : Option (Int × Nat)) (e : Ending) (w' : World) : Prop :=
 match o with
 | some (v, n) => e = .returned (.tuple #[.int .i64 v, .bool true]) /\ ObjStep (PR q (putC c v) p (K.drop n)) S w w'
 | none => e = .returned (.tuple #[.int .i64 0, .bool false]) /\ ∃ K', ObjStep (PR q c p K') S w w' /\ (K = [] -> K' = [])
set_option maxRecDepth 100000 in
set_option maxHeartbeats 3200000 in
theorem cdGet1 (S : Nat -> Prop) (q p : Nat) (c : Cd) (K : List Bool) (w : World) (h : PR q c p K w S) (hok : c.Ok) (hT : TabS S w) :
  Calls Tryz.prog 227 #[.pointer (some ⟨q, 0, none⟩), .pointer (some ⟨p, 0, none⟩)] w (Gp1 q c p K S w (getR c K)) := by
 have HP := getTime_any S q p c K w h hok hT
 clear h hT
 cases hg : getR c K with
 | none =>
  rw [hg] at HP
  replace HP := Lib.hid HP
  clear hg hok
  go_enter Tryz.func227, Tryz.ntmps227
  go_wp2_with fail
  refine HP.out.mono ?_
  rintro e w2 ⟨⟨x, rfl⟩, K', h2, hl⟩
  replace h2 := Lib.hid h2
  replace hl := Lib.hid hl
  clear HP
  go_wp2_with fail
  go_ret2
  exact ⟨rfl, K', h2.out, hl.out⟩
 | some y =>
  obtain ⟨v, n⟩ := y
  rw [hg] at HP
  replace HP := Lib.hid HP
  clear hg hok
  go_enter Tryz.func227, Tryz.ntmps227
  go_wp2_with fail
  refine HP.out.mono ?_
  rintro e w2 ⟨rfl, h2⟩
  have HM := Lib.hid (moveTo_any (objRK _ _) S q c v w w2 h2)
  clear HP h2
  go_wp2_with fail
  refine HM.out.mono ?_
  rintro e w3 ⟨rfl, h3⟩
  replace h3 := Lib.hid h3
  clear HM
  go_wp2_with fail
  go_ret2
  exact ⟨rfl, h3.out⟩
theorem cdGet_any (S : Nat -> Prop) (q p : Nat) (c : Cd) (K : List Bool) (w : World) (h : PR q c p K w S) (hok : c.Ok) (hT : TabS S w) :
  Calls Tryz.prog 227 #[.pointer (some ⟨q, 0, none⟩), .pointer (some ⟨p, 0, none⟩)] w (Gp q c p K S w (getR c K)) := by
 refine (cdGet1 S q p c K w h hok hT).mono fun e w' hh => ?_
 cases hg : getR c K with
 | none =>
  rw [hg] at hh
  obtain ⟨he, K', hs, -⟩ := hh
  exact ⟨he, px_of hs⟩
 | some y =>
  obtain ⟨v, n⟩ := y
  rw [hg] at hh
  exact hh
end Tm
end
section
open Go.RowKit Go.Sort
namespace Tm
open Bit Dsk Ob
theorem CMade.beside {I : Ob.Rel} (hI : Thing I) {w0 w : World} {e : Ending} {w' : World} (H : Own I w0 w) (h : CMade w e w') : ∃ q, e = .returned (.pointer (some ⟨q, 0, none⟩)) /\ Own (Tens I (IsCd q newC)) w0 w' := by
 obtain ⟨q, h1, h2, h3, h4⟩ := h
 exact ⟨q, h1, Own.new hI H h2 (fun b hb => by rw [hb]; exact h3) h4⟩
end Tm
end
end
end Go.Proofs.YtgmnhodajngchaaGreatDoor
