/- Parts: PHd1. -/
import Derived.Test.YtgmnhodajngchaaGreatDoorSPRc1
import Derived.Test.YtgmnhodajngchaaGreatDoorSPMt1
import Derived.Test.YtgmnhodajngchaaGreatDoorSPRow
import Derived.BigQuiet
set_option maxRecDepth 100000
set_option linter.unusedVariables false
namespace Go.Proofs.YtgmnhodajngchaaGreatDoor
section
section
open Go.RowKit
namespace Hd
open Bit Dsk Ob Dig
abbrev Pt := Int × Nat
structure Row where
 lab : List Lb.Pr
 pts : List Pt
 last : Int
end Hd
end
section
open Go.RowKit Go.ChangeShapes Go.WideShapes
namespace Hd
open Bit Dsk Ob Dig
def layP : Rw.Lay Pt := ⟨2, by decide, fun p => [.int .i64 p.1, .int .u64 (p.2 : Int)], fun _ => rfl, fun p u hu => by
 simp only [List.mem_cons, List.not_mem_nil, or_false] at hu
 rcases hu with rfl | rfl <;> rfl⟩
theorem typP : Rw.Typ layP 61 153 16 := Rw.Typ.mk' (z := .agg #[.int .i64 0, .int .u64 0]) Tryz.underlying61 (by kernel_rfl) rfl
end Hd
end
section
open Go.RowKit Go.Sort
namespace Hd
open Bit Dsk Ob Dig
end Hd
end
section
open Go.RowKit Go.Sort
namespace Hd
open Bit Dsk Ob Dig
end Hd
end
section
open Go.RowKit Go.Sort
namespace Hd
open Bit Dsk Ob Dig
theorem pview {w : World} {S : Nat -> Prop} {A : Option Addr} {n c : Nat} {l : List Pt} (h : Rw.View layP w S (.slice A n c) l) (hp : 0 < l.length) : ∃ b off, A = some ⟨b, off, none⟩ /\ S b /\ b < w.heap.size /\
  ∀ i (hi : i < l.length), w.cell? ⟨b, off + i * 2, none⟩ = some (.int .i64 l[i].1) /\ w.cell? ⟨b, off + i * 2 + 1, none⟩ = some (.int .u64 (l[i].2 : Int)) := by
 obtain ⟨b, off, h1, h2, h3, h4⟩ := Rw.View.open h hp
 exact ⟨b, off, h1, h2, h3, fun i hi => ⟨h4 i hi 0 _ rfl, h4 i hi 1 _ rfl⟩⟩
end Hd
end
section
open Go.RowKit Go.Sort
namespace Hd
open Bit Dsk Ob Dig
end Hd
end
section
open Go.RowKit Go.Sort
namespace Hd
open Bit Dsk Ob Dig
set_option maxHeartbeats 3200000 in
theorem psame_any (w : World) (S S' : Nat -> Prop) (v1 v2 : Value) (l m : List Pt) (h1 : Rw.View layP w S v1 l) (h2 : Rw.View layP w S' v2 m) :
  Calls Tryz.prog 28 #[v1, v2] w fun e w' => e = .returned (.bool (decide (l = m))) /\ ∃ n, w' = w.drewN n := by
 obtain ⟨A, c, rfl, hc1, hc2⟩ := Rw.View.shape h1
 obtain ⟨A', c', rfl, hc1', hc2'⟩ := Rw.View.shape h2
 have hA := fun hp => pview h1 hp
 have hA' := fun hp => pview h2 hp
 have hl := Nat.le_trans hc1 hc2
 have hl' := Nat.le_trans hc1' hc2'
 clear hc1 hc2 hc1' hc2'
 unfold maxLen at hl hl'
 by_cases hlen : l.length = m.length
 ·have hd : ((l.length : Int) != (m.length : Int)) = false := by rw [hlen]; simp
  replace hA := Lib.hid hA
  replace hA' := Lib.hid hA'
  have hlen2 := Lib.hid hlen
  clear hlen
  go_enter Tryz.func28, Tryz.ntmps28
  go_wp2_with fail
  go_loopw [5] (fun ov wr => ∃ j k : Nat, ov = .int .i64 (j : Int) /\ j <= l.length /\ Hid (∀ i (h1 : i < l.length) (h2 : i < m.length), i < j -> l[i] = m[i]) /\ wr = w.drewN k) (fun ov _ => l.length - (intOf ov).toNat)
  case atStart => exact ⟨0, 0, rfl, Nat.zero_le _, Lib.hid (fun i _ _ h => absurd h (Nat.not_lt_zero i)), rfl⟩
  case round =>
   obtain ⟨j, k, rfl, hj, hall, rfl⟩ := hrel
   by_cases hlt : j < l.length
   ·have hlt' : j < m.length := by have := hlen2.out; omega
    obtain ⟨b, off, rfl, -, -, hcells⟩ := hA.out (by omega)
    obtain ⟨b', off', rfl, -, -, hcells'⟩ := hA'.out (by omega)
    obtain ⟨x0, x1⟩ := hcells j hlt
    obtain ⟨y0, y1⟩ := hcells' j hlt'
    clear hcells hcells' hA hA'
    obtain ⟨p, hp⟩ : ∃ p, l[j] = p := ⟨_, rfl⟩
    obtain ⟨q, hq⟩ : ∃ q, m[j] = q := ⟨_, rfl⟩
    rw [hp] at x0 x1
    rw [hq] at y0 y1
    replace hp := Lib.hid hp
    replace hq := Lib.hid hq
    obtain ⟨a1, a2⟩ := p
    obtain ⟨b1, b2⟩ := q
    by_cases e1 : a1 = b1
    ·by_cases e2 : a2 = b2
     ·subst e1 e2
      have hnx : Hid (∀ i (h1 : i < l.length) (h2 : i < m.length), i < j + 1 -> l[i] = m[i]) := Lib.hid fun i g1 g2 g3 => by
       by_cases e : i = j
       ·subst e; rw [hp.out, hq.out]
       ·exact hall.out i g1 g2 (by omega)
      clear hall hp hq
      go_wp2_with fail
      go_quiet (fail)
      go_wp2_with fail
      go_roundw
      case rel => exact ⟨j + 1, k + nq, by go_num, hlt, hnx, rfl⟩
      case measure => simp [intOf]; omega
     ·have hf1 : decide (a2 = b2) = false := decide_eq_false e2
      have hf2 : ((a2 : Int) == (b2 : Int)) = false := by rw [beq_eq_false_iff_ne]; omega
      have hne : Hid (decide (l = m) = false) := Lib.hid (decide_eq_false fun e => by
       subst e
       have h := hp.out.symm.trans hq.out
       injection h with _ h
       exact e2 h)
      subst e1
      clear hall hp hq
      go_wp2_with fail
      go_quiet (fail)
      go_wp2_with fail
      go_ret
      exact ⟨Lb.ret_b hne.out.symm, k + nq, by rw [World.drewN_drewN]⟩
    ·have hf1 : decide (a1 = b1) = false := decide_eq_false e1
     have hf2 : (a1 == b1) = false := by rw [beq_eq_false_iff_ne]; exact e1
     have hne : Hid (decide (l = m) = false) := Lib.hid (decide_eq_false fun e => by
      subst e
      have h := hp.out.symm.trans hq.out
      injection h with h _
      exact e1 h)
     clear hall hp hq
     go_wp2_with fail
     go_quiet (fail)
     go_wp2_with fail
     go_ret
     exact ⟨Lb.ret_b hne.out.symm, k + nq, by rw [World.drewN_drewN]⟩
   ·have he : Hid (decide (l = m) = true) := Lib.hid (decide_eq_true (List.ext_getElem hlen2.out fun i g1 g2 => hall.out i g1 g2 (by omega)))
    clear hall hA hA'
    go_wp2_with fail
    go_ret
    exact ⟨Lb.ret_b he.out.symm, k, rfl⟩
 ·have hd : ((l.length : Int) != (m.length : Int)) = true := by rw [bne_iff_ne]; omega
  have hne : Hid (decide (l = m) = false) := Lib.hid (decide_eq_false fun e => hlen (by rw [e]))
  clear hA hA'
  go_enter Tryz.func28, Tryz.ntmps28
  go_wp2_with fail
  go_ret
  exact ⟨Lb.ret_b hne.out.symm, 0, rfl⟩
end Hd
end
section
open Go.RowKit Go.Sort
namespace Hd
open Bit Dsk Ob Dig
end Hd
end
end
end Go.Proofs.YtgmnhodajngchaaGreatDoor
