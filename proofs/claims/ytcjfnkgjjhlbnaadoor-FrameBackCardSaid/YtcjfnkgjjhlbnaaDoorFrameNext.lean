/- What the closure within frame.Scan returns that moves on behind each frame: the frame at the place that it captured, or an error; the place is behind it then. It leaves alone all else that was there before. Conditions: the table's two cells, a text of at most 1000000000 bytes. -/
import Derived.Test.YtcjfnkgjjhlbnaaDoorFrameGet
import Derived.Test.YtcjfnkgjjhlbnaaDoorFrameRows
import Derived.OneCell
import Derived.Outline
namespace Go.Proofs.YtcjfnkgjjhlbnaaDoor
open Go.RowKit
namespace Frm
open Dig Crc

/-- What a call of the closure leaves. -/
def Next (g : Got) (m ba : Nat) (w : World) (e : Ending) (w' : World) : Prop :=
  e = .returned (.tuple #[.agg #[.int .i64 (g.kind : Int), .string g.data], .int .i64 (g.err : Int)]) ∧ w.grownBy w' (some ba) ∧ w'.heap[ba]? = some (.cells #[.int .i64 (((m + g.size : Nat)) : Int)] 3 (0, 0))

set_option maxHeartbeats 800000 in
theorem next_any (s : ByteArray) (hs : s.size ≤ 1000000000) (m : Nat) (hm : m ≤ s.size) (bs ba : Nat) (w : World) (ht : Tab w) (h_s : w.heap[bs]? = some (.cells #[.string s] 9 (0, 0))) (h_a : w.heap[ba]? = some (.cells #[.int .i64 (m : Int)] 3 (0, 0))) :
    Calls Tryd.prog 24 #[.pointer (some ⟨bs, 0, none⟩), .pointer (some ⟨ba, 0, none⟩)] w (Next (gotF (s.extract m s.size)) m ba w) := by
  have hgz : (s.extract m s.size).size = s.size - m := len_of s m s.size (Nat.le_refl _)
  have hget := Lib.hid (get_any (s.extract m s.size) (by omega))
  have hgo : (gotF (s.extract m s.size)).size ≤ 1000000000 := by
    by_cases h : (gotF (s.extract m s.size)).err = 0
    · have := (gotF_ok _ h).2.1; omega
    · rw [gotF_err _ h]; simp [bad]
  clear hgz
  generalize gotF (s.extract m s.size) = g at *
  have c_s := cell_of_one h_s
  have c_a := cell_of_one h_a
  have l_s := lt_of_block h_s
  have l_a := lt_of_block h_a
  have n_s := Nat.ne_of_lt l_s
  have n_a := Nat.ne_of_lt l_a
  replace h_s := Lib.hid h_s
  replace h_a := Lib.hid h_a
  replace ht := Lib.hid ht
  go_enter Tryd.func24, Tryd.ntmps24
  go_wp2_with fail
  refine (hget.out _ (ht.out.below ((Below.refl _ _).alloc (Nat.le_refl _) _))).mono ?_
  rintro e w1 ⟨rfl, hb1⟩
  obtain ⟨c0, c1, f0, f1, hz, hbel⟩ := box2 hb1
  have h_a1 : w1.heap[ba]? = some (.cells #[.int .i64 (m : Int)] 3 (0, 0)) := (hbel.block ba l_a).trans h_a.out
  have c_a1 := cell_of_one h_a1
  have f_a1 := free_of_one h_a1
  have l_a1 : ba < w1.heap.size := Nat.lt_trans l_a hz
  have n_a1 := Nat.ne_of_lt l_a1
  have n_z := Nat.ne_of_lt hz
  have n_a' := n_a.symm
  clear hget c_s l_s n_s h_s c_a hb1
  replace h_a1 := Lib.hid h_a1
  go_wp2_with fail
  have d0 : (w1.setCell ⟨ba, 0, none⟩ (.int .i64 ((m : Int) + (g.size : Int)))).cell? ⟨w.heap.size, 0, none⟩ = some (.int .i64 0) := (World.cell?_setCell_other _ _ _ _ (by simp)).trans c0
  have d1 : (w1.setCell ⟨ba, 0, none⟩ (.int .i64 ((m : Int) + (g.size : Int)))).cell? ⟨w.heap.size, 1, none⟩ = some (.string ⟨#[]⟩) := (World.cell?_setCell_other _ _ _ _ (by simp)).trans c1
  obtain ⟨e0, e1, e2⟩ := set2 d0 d1
  have k0 := fun o => (World.cell?_alloc_lt (((w1.setCell ⟨ba, 0, none⟩ (.int .i64 ((m : Int) + (g.size : Int)))).setCell ⟨w.heap.size, 0, none⟩ (.int .i64 (g.kind : Int))).setCell ⟨w.heap.size, 1, none⟩ (.string g.data)) o ⟨w.heap.size, 0, none⟩ (by simp; omega)).trans (e2 _ _)
  have k1 := fun o => (World.cell?_alloc_lt (((w1.setCell ⟨ba, 0, none⟩ (.int .i64 ((m : Int) + (g.size : Int)))).setCell ⟨w.heap.size, 0, none⟩ (.int .i64 (g.kind : Int))).setCell ⟨w.heap.size, 1, none⟩ (.string g.data)) o ⟨w.heap.size, 1, none⟩ (by simp; omega)).trans (e1 _ _)
  refine bodyPost_ret (v := .tuple #[.agg #[.int .i64 (g.kind : Int), .string g.data], .int .i64 (g.err : Int)]) (by simp [results, Tryd.results24, go_sem, k0, k1]) rfl ⟨rfl, ?_, ?_⟩
  · refine ⟨hbel.os, hbel.tape, hbel.output, by simp; omega, fun k hk hne => ?_⟩
    rw [Below.heap_alloc _ _ _ (by simp; omega), Below.heap_setCell _ _ _ _ (Nat.ne_of_lt hk), Below.heap_setCell _ _ _ _ (Nat.ne_of_lt hk), Below.heap_setCell _ _ _ _ (fun e => hne (by rw [e]))]
    exact hbel.block k hk
  · rw [Below.heap_alloc _ _ _ (by simp; omega), Below.heap_setCell _ _ _ _ n_a, Below.heap_setCell _ _ _ _ n_a]
    exact one_setCell h_a1.out
end Frm
end Go.Proofs.YtcjfnkgjjhlbnaaDoor
