/- The document's manifests (layer 17): file, in. -/
import Derived.Test.YtjpgglajcelllaaDoorEMfRow
import Derived.Test.YtjpgglajcelllaaDoorEPRef1
set_option maxRecDepth 100000
namespace Go.Proofs.YtjpgglajcelllaaDoor
open Go.RowKit
namespace Mf
open Bit Dsk Ob Dig Go.Maps
set_option linter.unusedVariables false
set_option maxRecDepth 100000 in
set_option maxHeartbeats 3200000 in
theorem file_any (s : ByteArray) (hs : s.size ≤ maxLen) (w : World) : Calls Tryd.prog 43 #[.string s] w (Ans (.bool (isName s.data.toList)) w) := by
  unfold maxLen at hs
  have HL : Hid (∀ k (h : k < s.size), s.data.toList.take (k + 1) = s.data.toList.take k ++ [s[k]]) := Lib.hid fun k h => by rw [List.take_succ_eq_append_getElem (by simpa using h)]; rfl
  have HE := Lib.hid (size_cases s)
  have HN := Lib.hid (no_name (l := s.data.toList))
  have hz : s.data.toList.length = s.size := by simp
  replace hz := Lib.hid hz
  generalize s.data.toList = l at *
  go_enter Tryd.func43, Tryd.ntmps43
  go_wp2
  go_loop [3] (fun i => ∃ k : Nat, k ≤ s.size ∧ i = .int .i64 k ∧ ((l.take k).all isSign = true)) (fun i => s.size - (intOf i).toNat)
  case atStart => exact ⟨0, Nat.zero_le _, rfl, rfl⟩
  case round =>
    obtain ⟨k, hk, rfl, hall⟩ := hrel
    replace hall := Lib.hid hall
    by_cases hlt : k < s.size
    · have hts := HL.out k hlt
      have hgood : isSign s[k] = true → (l.take (k + 1)).all isSign = true := fun h => by rw [hts, List.all_append, hall.out]; simp [h]
      have hbad : isSign s[k] = false → isName l = false := fun h => HN.out (by
        rw [Bool.eq_false_iff]
        intro h2
        have hm : s[k] ∈ l := by
          have : s[k] ∈ l.take (k + 1) := by rw [hts]; simp
          exact List.mem_of_mem_take this
        have := List.all_eq_true.1 h2 _ hm
        rw [h] at this; cases this)
      have hsg := sign_of s[k]
      rw [hsg] at hgood hbad
      replace hgood := Lib.hid hgood
      replace hbad := Lib.hid hbad
      clear hts hsg
      rcases sign_class (s[k].toNat : Int) with ⟨h1, h2⟩ | ⟨h1, h2⟩ | h1 | h1 | h1 | ⟨h1, h2⟩ | h1 | h1
      · have HA := Lib.hid (hgood.out (by simp [signN]; omega))
        have e0 : ¬ (s[k].toNat : Int) < 97 := by omega
        have e1 : ¬ (122 : Int) < (s[k].toNat : Int) := by omega
        go_wp2
        exact ⟨⟨k + 1, by omega, by push_cast; rfl, HA.out⟩, by simp only [intOf]; omega⟩
      · have HA := Lib.hid (hgood.out (by simp [signN]; omega))
        have e0 : (s[k].toNat : Int) < 97 := by omega
        have e1 : ¬ (s[k].toNat : Int) < 48 := by omega
        have e2 : ¬ (57 : Int) < (s[k].toNat : Int) := by omega
        go_wp2
        exact ⟨⟨k + 1, by omega, by push_cast; rfl, HA.out⟩, by simp only [intOf]; omega⟩
      · have HA := Lib.hid (hgood.out (by simp [signN]; omega))
        have e0 : (s[k].toNat : Int) < 97 := by omega
        have e1 : (s[k].toNat : Int) < 48 := by omega
        have e2 : ((s[k].toNat : Int) == 46) = true := by simp; omega
        have n2 : ((s[k].toNat : Int) != 46) = false := by simp; omega
        go_wp2
        exact ⟨⟨k + 1, by omega, by push_cast; rfl, HA.out⟩, by simp only [intOf]; omega⟩
      · have HA := Lib.hid (hgood.out (by simp [signN]; omega))
        have e0 : (s[k].toNat : Int) < 97 := by omega
        have e1 : (s[k].toNat : Int) < 48 := by omega
        have e2 : ((s[k].toNat : Int) == 46) = false := by simp; omega
        have n2 : ((s[k].toNat : Int) != 46) = true := by simp; omega
        have e3 : ((s[k].toNat : Int) == 45) = true := by simp; omega
        have n3 : ((s[k].toNat : Int) != 45) = false := by simp; omega
        go_wp2
        exact ⟨⟨k + 1, by omega, by push_cast; rfl, HA.out⟩, by simp only [intOf]; omega⟩
      · have HA := Lib.hid (hbad.out (by simp [signN]; omega))
        have e0 : ¬ (s[k].toNat : Int) < 97 := by omega
        have e1 : (122 : Int) < (s[k].toNat : Int) := by omega
        have e2 : ¬ (s[k].toNat : Int) < 48 := by omega
        have e3 : (57 : Int) < (s[k].toNat : Int) := by omega
        have e4 : ((s[k].toNat : Int) == 46) = false := by simp; omega
        have n4 : ((s[k].toNat : Int) != 46) = true := by simp; omega
        have e5 : ((s[k].toNat : Int) == 45) = false := by simp; omega
        have n5 : ((s[k].toNat : Int) != 45) = true := by simp; omega
        go_wp2
        go_ret
        exact ⟨by rw [HA.out]; rfl, rfl⟩
      · have HA := Lib.hid (hbad.out (by simp [signN]; omega))
        have e0 : (s[k].toNat : Int) < 97 := by omega
        have e1 : ¬ (s[k].toNat : Int) < 48 := by omega
        have e2 : (57 : Int) < (s[k].toNat : Int) := by omega
        have e3 : ((s[k].toNat : Int) == 46) = false := by simp; omega
        have n3 : ((s[k].toNat : Int) != 46) = true := by simp; omega
        have e4 : ((s[k].toNat : Int) == 45) = false := by simp; omega
        have n4 : ((s[k].toNat : Int) != 45) = true := by simp; omega
        go_wp2
        go_ret
        exact ⟨by rw [HA.out]; rfl, rfl⟩
      · have HA := Lib.hid (hbad.out (by simp [signN]; omega))
        have e0 : (s[k].toNat : Int) < 97 := by omega
        have e1 : (s[k].toNat : Int) < 48 := by omega
        have e2 : ((s[k].toNat : Int) == 46) = false := by simp; omega
        have n2 : ((s[k].toNat : Int) != 46) = true := by simp; omega
        have e3 : ((s[k].toNat : Int) == 45) = false := by simp; omega
        have n3 : ((s[k].toNat : Int) != 45) = true := by simp; omega
        go_wp2
        go_ret
        exact ⟨by rw [HA.out]; rfl, rfl⟩
      · have HA := Lib.hid (hbad.out (by simp [signN]; omega))
        have e0 : (s[k].toNat : Int) < 97 := by omega
        have e1 : (s[k].toNat : Int) < 48 := by omega
        have e2 : ((s[k].toNat : Int) == 46) = false := by simp; omega
        have n2 : ((s[k].toNat : Int) != 46) = true := by simp; omega
        have e3 : ((s[k].toNat : Int) == 45) = false := by simp; omega
        have n3 : ((s[k].toNat : Int) != 45) = true := by simp; omega
        go_wp2
        go_ret
        exact ⟨by rw [HA.out]; rfl, rfl⟩
    · obtain rfl : k = s.size := by omega
      rcases HE.out (by have h := hall.out; rw [List.take_of_length_le (by rw [hz.out]; exact Nat.le_refl _)] at h; exact h) with ⟨h0, e⟩ | ⟨h0, e⟩ | ⟨h0, h1, e⟩
      · replace e := Lib.hid e
        go_wp2
        go_ret
        exact ⟨by rw [e.out]; rfl, rfl⟩
      · replace e := Lib.hid e
        have d1 : (1 : Int) ≤ (s.size : Int) := by omega
        have d2 : ¬ (s.size : Int) ≤ 32 := by omega
        go_wp2
        go_ret
        exact ⟨by rw [e.out]; rfl, rfl⟩
      · replace e := Lib.hid e
        have d1 : (1 : Int) ≤ (s.size : Int) := by omega
        have d2 : (s.size : Int) ≤ 32 := by omega
        go_wp2
        go_ret
        exact ⟨by rw [e.out]; rfl, rfl⟩
theorem file_is (s : ByteArray) (hs : s.size ≤ maxLen) {b : Bool} (h : nm s = b) (w : World) : Calls Tryd.prog 43 #[.string s] w fun e w' => e = .returned (.bool b) ∧ w = w' := by
  rw [← h]; exact file_any s hs w
theorem in_any (n : Int) {b : Bool} (h : decide (inB n) = b) (w : World) : Calls Tryd.prog 42 #[.int .i64 n] w fun e w' => e = .returned (.bool b) ∧ w = w' := by
  subst h
  by_cases h0 : 0 ≤ n
  · have e : decide (inB n) = decide (n ≤ 99999999) := decide_eq_decide.2 (by unfold inB; omega)
    rw [e]
    clear e
    go_enter Tryd.func42, Tryd.ntmps42
    go_wp2_with fail
    go_ret
    exact ⟨rfl, rfl⟩
  · have e : decide (inB n) = false := decide_eq_false (by unfold inB; omega)
    rw [e]
    clear e
    go_enter Tryd.func42, Tryd.ntmps42
    go_wp2_with fail
    go_ret
    exact ⟨rfl, rfl⟩
end Mf
end Go.Proofs.YtjpgglajcelllaaDoor
