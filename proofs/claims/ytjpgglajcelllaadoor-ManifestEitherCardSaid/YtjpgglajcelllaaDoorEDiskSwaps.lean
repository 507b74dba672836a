/- The law DiskSwaps (layer 4), walked: one file over another one: the one or the other, behind any crash. -/
import Derived.Test.YtjpgglajcelllaaDoorEPDisk3
set_option maxRecDepth 100000
set_option linter.unusedSimpArgs false
namespace Go.Proofs.YtjpgglajcelllaaDoor
open Go.RowKit
namespace Dsk
open Go.Maps
/-! ### what all lasts of is as it was behind any crash -/
theorem cutAll_keeps {i : Nat} {f : FileS} (hl : f.lasts = f.s.length) : ∀ (N : Nms) (keep : List Int) (F : List FileS), F[i]? = some f → (cutAll keep N F)[i]? = some f
  | [], _, _, h => h
  | p :: r, keep, F, h => by
    unfold cutAll
    refine cutAll_keeps hl r _ _ ?_
    rw [List.getElem?_modify, h]
    by_cases e : p.2 = i
    · have hk : kept1 keep 0 = 0 := by have := kept1_le keep 0; omega
      have hc : cutF f (f.lasts + kept1 keep (f.s.length - f.lasts)) = f := by
        rw [hl, Nat.sub_self, hk, Nat.add_zero]
        unfold cutF
        rw [List.take_length]
        obtain ⟨s, l⟩ := f
        simp only at hl
        subst hl
        rfl
      simp only [e, if_true]
      exact congrArg some hc
    · simp [e]
/-! ### as plain data -/
def sw (a : Str) (left : Int) : St := { room := 1048576, dead := false, left := left, F := [⟨a, a.length⟩], N := [([109], 0)], L := [([109], 0)], C := [] }
def sx1 (a b : Str) (left : Int) : St := { room := 1048576, dead := false, left := left, F := [⟨a, a.length⟩, ⟨b, 0⟩], N := [([109], 0), ([110], 1)], L := [([109], 0)], C := [.put [110] 1] }
def sx2 (a b : Str) (left : Int) : St := { room := 1048576, dead := false, left := left, F := [⟨a, a.length⟩, ⟨b, b.length⟩], N := [([109], 0), ([110], 1)], L := [([109], 0)], C := [.put [110] 1] }
def off (st : St) : St := { st with dead := true }
theorem st1 (a b : Str) (ha : a.length ≤ 1000) (hb : b.length ≤ 1000) (l : Int) (hl : 0 < l) : appE (sw a l) [110] b = 0 ∧ appS (sw a l) [110] b = sx1 a b (l - 1) := by
  have h0 : ¬ l = 0 := by omega
  have hd : decide ((1048576 : Int) < ((a.length + b.length : Nat) : Int)) = false := decide_eq_false (by omega)
  constructor
  · simp [appE, sw, wrB, wrS, isName, isSign, full, used, lookN, h0, hl]; omega
  · simp [appS, sw, wrB, wrS, isName, isSign, full, used, lookN, addF, putN, delN, insN, sx1, h0, hl, bytesBefore]; omega
theorem st2 (a b : Str) (l : Int) (hl : 0 < l) : syncE (sx1 a b l) [110] = 0 ∧ syncS (sx1 a b l) [110] = sx2 a b (l - 1) := by
  have h0 : ¬ l = 0 := by omega
  constructor <;> simp [syncE, syncS, syncF, sx1, sx2, wrB, wrS, lookN, h0, hl]
end Dsk
end Go.Proofs.YtjpgglajcelllaaDoor
