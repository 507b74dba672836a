/- For all texts FrameReads returns true; what 'same' returns of two rows that hold the same frames. Conditions: the table's two cells, texts no longer than a text can be. -/
import Derived.Test.YtcjfnkgjjhlbnaaDoorFrameScan
import Derived.Test.YtcjfnkgjjhlbnaaDoorFrameLaws
namespace Go.Proofs.YtcjfnkgjjhlbnaaDoor
open Go.RowKit
namespace Frm
open Dig Crc

/-- A slice value that stands at a block's head holds these cells. -/
def Holds (w : World) (A : Option Addr) (n : Nat) (xs : List Value) : Prop :=
  0 < n → ∃ b, A = some ⟨b, 0, none⟩ ∧ b < w.heap.size ∧ ∀ j u, xs[j]? = some u → w.cell? ⟨b, j, none⟩ = some u
theorem Holds.below {w w1 : World} {A : Option Addr} {n : Nat} {xs : List Value} (h : Holds w A n xs) (hb : Below w.heap.size w w1) : Holds w1 A n xs := fun hn => by
  obtain ⟨b, hA, hl, hc⟩ := h hn
  exact ⟨b, hA, Nat.lt_of_lt_of_le hl hb.size, fun j u hu => (hb.cell (p := ⟨b, j, none⟩) hl).trans (hc j u hu)⟩
theorem addr0 (b j : Nat) : (⟨b, 0, none⟩ : Addr).add j = ⟨b, j, none⟩ := by
  unfold Addr.add
  split <;> simp_all
theorem holds_own {w : World} {base size n : Nat} {e : TypeId} {v : Value} {xs : List Value} (h : w.ownsRow base e size v n xs) : ∃ A c, v = .slice A n c ∧ n ≤ c ∧ Holds w A n xs := by
  rcases h.2 with ⟨rfl, rfl⟩ | ⟨g, cap, cur, rfl, hg, hh, hn, _⟩
  · exact ⟨none, 0, rfl, Nat.le_refl _, fun hn => absurd hn (by omega)⟩
  · refine ⟨some ⟨g, 0, none⟩, cap, rfl, hn, fun _ => ⟨g, rfl, (h.lt g rfl).2, fun j u hu => ?_⟩⟩
    have := h.cells (g := g) rfl j u hu
    rwa [addr0] at this

set_option maxHeartbeats 800000 in
theorem same_true (l : List (Nat × ByteArray)) (A1 A2 : Option Addr) (n c1 c2 : Nat) (hl : l.length = n) (hn : n ≤ 1000000000) (w : World) (h1 : Holds w A1 n (cellsL l)) (h2 : Holds w A2 n (cellsL l)) :
    Calls Tryd.prog 14 #[.slice A1 n c1, .slice A2 n c2] w fun e w' => e = .returned (.bool true) ∧ Below w.heap.size w w' := by
  replace h1 := Lib.hid h1
  replace h2 := Lib.hid h2
  replace hl := Lib.hid hl
  go_enter Tryd.func14, Tryd.ntmps14
  go_wp2_with fail
  go_loopw [5] (fun i wr => ∃ k : Nat, k ≤ n ∧ i = .int .i64 (k : Int) ∧ Below w.heap.size w wr) (fun i _ => n - (intOf i).toNat)
  case atStart => exact ⟨0, by omega, rfl, Below.refl _ _⟩
  case round =>
    obtain ⟨k, hk, rfl, hb⟩ := hrel
    by_cases hlt : k < n
    · obtain ⟨b1, rfl, hl1, hc1⟩ := h1.out (by omega)
      obtain ⟨b2, rfl, hl2, hc2⟩ := h2.out (by omega)
      have hkl : k < l.length := by rw [hl.out]; exact hlt
      have a1 := (hb.cell (p := ⟨b1, k * 2, none⟩) hl1).trans (hc1 _ _ (cellsL_kind l k hkl))
      have a2 := (hb.cell (p := ⟨b1, k * 2 + 1, none⟩) hl1).trans (hc1 _ _ (cellsL_data l k hkl))
      have a3 := (hb.cell (p := ⟨b2, k * 2, none⟩) hl2).trans (hc2 _ _ (cellsL_kind l k hkl))
      have a4 := (hb.cell (p := ⟨b2, k * 2 + 1, none⟩) hl2).trans (hc2 _ _ (cellsL_data l k hkl))
      generalize (l[k]).1 = x at *
      generalize (l[k]).2 = y at *
      clear hc1 hc2 h1 h2 hl
      replace hb := Lib.hid hb
      have i0 : (0 : Int) ≤ (k : Int) := by omega
      have i1 : (k : Int) < (n : Int) := by omega
      go_wp2_with fail
      go_quiet (fail)
      have hb' := Lib.hid (below_drewN hb.out nq)
      clear a1 a2 a3 a4 hb
      go_wp2_with fail
      go_roundw
      case rel => exact ⟨k + 1, by omega, by go_num, hb'.out⟩
      case measure => simp [intOf]; omega
    · obtain rfl : k = n := by omega
      go_wp2_with fail
      go_ret
      exact ⟨rfl, hb⟩

theorem scan_count (f : Nat) (s : ByteArray) (m : Nat) (hm : m ≤ s.size) : (scanF f s m).1.length ≤ s.size - m ∧ (scanF f s m).2.1 ≤ s.size ∧ (scanF f s m).2.2 ≤ 10 := by
  induction f generalizing m with
  | zero => exact ⟨by simp [scanF], hm, by simp [scanF]⟩
  | succ f ih =>
    by_cases h : m < s.size
    · by_cases he : (gotF (s.extract m s.size)).err = 0
      · rw [scan_more f s m h he]
        have hg := gotF_ok _ he
        rw [len_of s m s.size (Nat.le_refl _)] at hg
        have := ih (m + (gotF (s.extract m s.size)).size) (by omega)
        simp only [List.length_cons]
        exact ⟨by omega, this.2⟩
      · rw [scan_err f s m h he]
        exact ⟨by simp, hm, gotF_le _⟩
    · rw [scan_end _ s m (by omega)]
      exact ⟨by simp, hm, by simp⟩

set_option maxHeartbeats 400000 in
theorem reads_long (s : ByteArray) (hs : s.size ≤ 140737488351232) (hl : 5000 < s.size) (w : World) :
    Calls Tryd.prog 4 #[.string s] w fun e w' => e = .returned (.bool true) ∧ Below w.heap.size w w' := by
  go_enter Tryd.func4, Tryd.ntmps4
  go_wp2
  go_ret
  exact ⟨rfl, Below.refl _ _⟩

set_option maxHeartbeats 800000 in
theorem reads_short (s : ByteArray) (hs : s.size ≤ 5000) (w : World) (ht : Tab w) :
    Calls Tryd.prog 4 #[.string s] w fun e w' => e = .returned (.bool true) ∧ Below w.heap.size w w' := by
  have hget := Lib.hid (get_any s (by omega))
  have hrget := Lib.hid (refgot_any s (by omega))
  have hscan := scan_any s (by omega)
  have hrscan := refscan_any s (by omega)
  have hcnt := (scan_count (s.size + 1) s 0 (by omega)).1
  unfold Scanned at hscan hrscan
  replace hscan := Lib.hid hscan
  replace hrscan := Lib.hid hrscan
  generalize gotF s = g at *
  generalize scanF (s.size + 1) s 0 = r at *
  go_enter Tryd.func4, Tryd.ntmps4
  go_wp2_with fail
  refine (hget.out _ ht).mono ?_
  rintro e w1 ⟨rfl, hb1⟩
  go_wp2_with fail
  refine (hrget.out _).mono ?_
  rintro e w2 ⟨rfl, hb2⟩
  go_wp2_with fail
  have hbel2 : Below w.heap.size w w2 := chain2 hb1 (chain2 ((Below.refl _ _).alloc (Nat.le_refl _) _) hb2)
  refine (hscan.out _ (ht.below (hbel2.alloc hbel2.size _))).mono ?_
  rintro e w3 ⟨v1, rfl, hown1, hb3⟩
  obtain ⟨A1, k1, rfl, _, hh1⟩ := holds_own hown1
  replace hh1 := Lib.hid hh1
  clear hown1
  go_wp2_with fail
  refine (hrscan.out _).mono ?_
  rintro e w4 ⟨v2, rfl, hown2, hb4⟩
  obtain ⟨A2, k2, rfl, _, hh2⟩ := holds_own hown2
  have hsame := Lib.hid (same_true r.1 A1 A2 r.1.length k1 k2 rfl (by omega) w4 (hh1.out.below hb4) hh2)
  obtain ⟨a0, a1, _, _, _, _⟩ := box2 (chain2 (chain2 (hb2.alloc hb2.size _) hb3) hb4)
  obtain ⟨b0, b1, _, _, _, _⟩ := box2 (chain2 hb3 hb4)
  have hbel4 := Lib.hid (chain2 (chain2 (hbel2.alloc hbel2.size _) hb3) hb4)
  clear hown2 hh1 hh2 hb1 hb2 hb3 hb4 hbel2 hscan hrscan hget hrget
  go_wp2_with fail
  refine hsame.out.mono ?_
  rintro e w5 ⟨rfl, hb5⟩
  go_wp2_with fail
  go_ret
  exact ⟨rfl, chain2 hbel4.out hb5⟩

theorem reads_true (s : ByteArray) (hs : s.size ≤ 140737488351232) (w : World) (ht : Tab w) :
    Calls Tryd.prog 4 #[.string s] w fun e w' => e = .returned (.bool true) ∧ Below w.heap.size w w' := by
  by_cases hl : 5000 < s.size
  · exact reads_long s hs hl w
  · exact reads_short s (by omega) w ht
end Frm
end Go.Proofs.YtcjfnkgjjhlbnaaDoor
