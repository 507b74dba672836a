/- Manifests (layer 17): the law's own trial. -/
import Derived.Test.YtjpgglajcelllaaDoorEMfWk
set_option maxRecDepth 100000
namespace Go.Proofs.YtjpgglajcelllaaDoor
open Go.RowKit
namespace Mf
open Bit Dsk Ob Dig
set_option linter.unusedVariables false
/-- The disk anew, as it stands now. -/
theorem At.anew {W a b : World} {S : Nat → Prop} {p : Nat} {st : St} (h : At W S a) (hs : Step S p st a b) : ∃ S', At W S' b ∧ IsDisk b S' p st := by
  have hb := h.below hs
  obtain ⟨⟨S', h1, h2, h3⟩, hu⟩ := hs
  exact ⟨S', ⟨hb, fun b hb => (h3 b hb).elim (h.new b) fun k => Nat.le_trans h.low.size k, h.tab⟩, h1⟩
theorem At.more {W a b : World} {S : Nat → Prop} (h : At W S a) (hu : New0 a b) : At W S b := ⟨below_of_upon h.low hu, h.new, h.tab⟩
theorem crash_step {a b : World} {S : Nat → Prop} {p : Nat} {st : St} (hs : Step S p st a b) {k : Nat} (hg : Gro.Grew k st) (hk : k ≤ 1000) :
    Calls Tryd.prog 24 #[.pointer (some ⟨p, 0, none⟩), .slice none 0 0] b fun e w' => e = .returned (.tuple #[]) ∧ Step S p (Dsk.crash st []) a w' :=
  step_more hs fun S' hD => by
    have hsm := hg.small hD.fine hk (z := 0) (by omega)
    exact crash_any S' p st [] _ 0 b hD (KeepAt.nil _ _) (fun h => absurd rfl h) (fun f hf => by have := hsm.file f hf; omega) hsm.chs
set_option maxHeartbeats 25600000 in
theorem works_true (W : World) (hT : Crc.Tab W) : Calls Tryd.prog 20 #[] W fun e W' => e = .returned (.bool true) ∧ New0 W W' := by
  have hTT := Lib.hid hT
  clear hT
  obtain ⟨wp1, wp2, wp3, wp4⟩ := wk_pub
  have hp1 := Lib.hid wp1
  have hp2 := Lib.hid wp2
  have hp3 := Lib.hid wp3
  have hp4 := Lib.hid wp4
  clear wp1 wp2 wp3 wp4
  go_enter Tryd.func20, Tryd.ntmps20
  go_wp2_with fail
  refine (new_any 1000 (by decide) W).mono ?_
  rintro e w1 ⟨S, p, rfl, hd, hS, hu⟩
  have ha : Hid (At W S w1) := Lib.hid ⟨hu.below (Nat.le_refl _) fun _ h => h.elim, hS, hTT.out⟩
  have hs1 := Lib.hid (Step.same hd)
  clear hd hS hu
  have HL := Lib.hid (load_step ha.out hs1.out hp4.out.short)
  go_wp2_with fail
  refine HL.out.mono ?_
  rintro e w2 ⟨m, x, ⟨uA, un, uc⟩, rfl, hl, -, -, hs2⟩
  obtain ⟨rfl, rfl⟩ := Held.none hp4.out hl
  obtain ⟨S2, ha2, hd2⟩ := ha.out.anew hs2
  obtain ⟨w3, hw3⟩ : ∃ w3, w2.alloc (.cells #[.int .i64 1, .int .i64 0, .int .i64 1, .int .i64 (-9223372036854775808), .int .i64 0, .slice uA un uc] 26 (0, 0)) = w3 := ⟨_, rfl⟩
  have u3 : New0 w2 w3 := by rw [← hw3]; exact (Upon.refl _ w2).alloc _
  have s3 : w3.heap.size = w2.heap.size + 1 := by rw [← hw3]; simp
  have hX3 : Six 26 w2.heap.size ⟨.int .i64 1, .int .i64 0, .int .i64 1, .int .i64 (-9223372036854775808), .int .i64 0, .slice uA un uc⟩ w3 := by rw [← hw3]; exact six_new _ w2 ⟨.int .i64 1, .int .i64 0, .int .i64 1, .int .i64 (-9223372036854775808), .int .i64 0, .slice uA un uc⟩
  have hno : ¬ S2 w2.heap.size := fun h => by have := hd2.lt _ h; omega
  have ha3 := Lib.hid (ha2.more u3)
  have hs3 := Lib.hid (Step.same (hd2.upon u3 fun _ _ h => h))
  have HP : Hid (Calls Tryd.prog 22 #[.pointer (some ⟨p, 0, none⟩), .agg #[.int .i64 2, .int .i64 0, .int .i64 2, .int .i64 0, .int .i64 0, .slice none 0 0]] w3 fun e w' => e = .returned (.int .i64 0) ∧ Step S2 p wk1 w3 w' ∧ Gro.Grew (0 + 5) wk1) := by
    have h := publish_step ha3.out hs3.out (Gro.grew_new 1000) (by omega) (m := wkM) (S2 := All) (v := mv wkM ⟨none, 0, 0⟩) ⟨⟨none, 0, 0⟩, rfl, Rw.View.noth _ _ _⟩ ⟨⟨by decide, by decide, by decide, by decide, by decide⟩, fun b hb => by cases hb⟩
    rw [hp1.out] at h
    exact Lib.hid h
  have hX3 := Lib.hid hX3
  have hno := Lib.hid hno
  replace hw3 := Lib.hid hw3
  have hs23 : Hid (w2.heap.size < w3.heap.size) := Lib.hid (by omega)
  clear HL hl hs2 ha2 hd2 u3 s3 ha hs1
  dsimp only [mv, noneM, Rw.Sl.v]
  go_wp2_with fail
  rw [hw3.out]
  go_wp2_with fail
  refine HP.out.mono ?_
  rintro e w4 ⟨rfl, hs4, hg4⟩
  have HC := Lib.hid (crash_step hs4 hg4 (by omega))
  clear HP hs4 hg4
  go_wp2_with fail
  refine HC.out.mono ?_
  rintro e w5 ⟨rfl, hs5⟩
  have HL := Lib.hid (load_step ha3.out hs5 hp3.out.short)
  clear HC hs5
  go_wp2_with fail
  refine HL.out.mono ?_
  rintro e w6 ⟨m, x, ⟨vA, vn, vc⟩, rfl, hl, -, -, hs6⟩
  obtain ⟨rfl, rfl⟩ := Held.some wk_good (by decide) hp3.out hl
  have hX6 := hX3.out.upon hs6.upon hno.out
  have lt6 : w2.heap.size < w6.heap.size := Nat.lt_of_lt_of_le hs23.out hs6.upon.size
  have hend := Lib.hid (show New0 W (w6.alloc (.cells #[.int .i64 2, .int .i64 0, .int .i64 2, .int .i64 0, .int .i64 0, .slice vA vn vc] 26 (0, 0))) from Upon.alloc (newOf (ha3.out.below hs6)) _)
  obtain ⟨c0, -, -, c3, -, -⟩ := hX6.cells
  dsimp only at c0 c3
  clear HL hl hs6 hX3 hX6 hno hs23 ha3 hp1 hp2 hp3 hp4
  dsimp only [mv, wkM, Rw.Sl.v]
  go_wp2_with fail
  go_ret
  exact ⟨rfl, hend.out⟩
end Mf
end Go.Proofs.YtjpgglajcelllaaDoor
