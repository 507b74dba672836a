/- What frame.Scan returns: of any bytes all frames from the front on, how many bytes are theirs, and what stopped it. It leaves alone what was there before. Conditions: the table's two cells, a text of at most 1000000000 bytes. -/
import Derived.Test.YtcjfnkgjjhlbnaaDoorFrameNext
import Derived.Test.YtcjfnkgjjhlbnaaDoorFrameScanRef
import Derived.Deep.QuietTactic
import Derived.BigQuiet
namespace Go.Proofs.YtcjfnkgjjhlbnaaDoor
open Go.RowKit
namespace Frm
open Dig Crc

theorem infoF : (Tryd.prog.info? 26).map (fun i => (i.zero, i.size, i.bytes)) = some (some (.agg #[.int .i64 0, .string ByteArray.empty]), 2, 24) := by kernel_rfl

/-- What holds at the head of each round. -/
def UptoC (s : ByteArray) (w : World) (v : Value) (wr : World) : Prop :=
  ∃ (m f : Nat) (acc : List (Nat × ByteArray)), m ≤ s.size ∧ s.size < m + f ∧ scanF (s.size + 1) s 0 = (acc ++ (scanF f s m).1, (scanF f s m).2) ∧
    wr.ownsRow (w.heap.size + 2) 26 2 v acc.length (cellsL acc) ∧ Below w.heap.size w wr ∧ acc.length ≤ m ∧
    wr.heap[w.heap.size]? = some (.cells #[.string s] 9 (0, 0)) ∧ wr.heap[w.heap.size + 1]? = some (.cells #[.int .i64 (m : Int)] 3 (0, 0)) ∧ w.heap.size + 2 ≤ wr.heap.size

theorem own_le {w : World} {base base' size n : Nat} {e : TypeId} {v : Value} {xs : List Value} (h : w.ownsRow base e size v n xs) (hb : base' ≤ base) : w.ownsRow base' e size v n xs := by
  refine ⟨h.1, ?_⟩
  rcases h.2 with h1 | ⟨g, cap, cur, hv, hg, r⟩
  · exact .inl h1
  · exact .inr ⟨g, cap, cur, hv, by omega, r⟩
theorem own_apart {w w1 : World} {base size n b : Nat} {e : TypeId} {v : Value} {xs : List Value} (h : w.ownsRow base e size v n xs) (hg : w.grownBy w1 (some b)) (hb : b < base) : w1.ownsRow base e size v n xs :=
  h.kept hg (by
    cases hv : v.ownBlock with
    | none => exact .inl rfl
    | some k =>
      have := (h.lt k hv).1
      exact .inr (by simp; omega))
/-- The place at which a scan stands. -/
def placeOf (w : World) (b : Nat) : Nat := match w.cell? ⟨b, 0, none⟩ with
  | some x => (intOf x).toNat
  | none => 0
theorem place_of {w : World} {b m : Nat} {t : TypeId} (h : w.heap[b]? = some (.cells #[.int .i64 (m : Int)] t (0, 0))) : placeOf w b = m := by
  unfold placeOf; rw [cell_of_one h]; simp [intOf]

/-- A round more. -/
theorem upto_nextC {s : ByteArray} {w w2 : World} {v : Value} {acc : List (Nat × ByteArray)} {m f k z : Nat} {d : ByteArray} (hz0 : 0 < z) (hz : z ≤ s.size - m) (hm : m < s.size) (hf : s.size < m + (f + 1))
    (hsc : scanF (s.size + 1) s 0 = (acc ++ (k, d) :: (scanF f s (m + z)).1, (scanF f s (m + z)).2)) (hown : w2.ownsRow (w.heap.size + 2) 26 2 v (acc.length + 1) (cellsL acc ++ [.int .i64 (k : Int), .string d])) (hb : Below w.heap.size w w2) (hal : acc.length ≤ m)
    (h_s : w2.heap[w.heap.size]? = some (.cells #[.string s] 9 (0, 0))) (h_a : w2.heap[w.heap.size + 1]? = some (.cells #[.int .i64 ((m + z : Nat) : Int)] 3 (0, 0))) (hz2 : w.heap.size + 2 ≤ w2.heap.size) :
    UptoC s w v w2 := by
  refine ⟨m + z, f, acc ++ [(k, d)], by omega, by omega, ?_, ?_, hb, by simp; omega, h_s, h_a, hz2⟩
  · rw [hsc, List.append_assoc]; rfl
  · rw [List.length_append, cellsL_append]; exact hown

set_option maxHeartbeats 800000 in
theorem scan_any (s : ByteArray) (hs : s.size ≤ 1000000000) (w : World) (ht : Tab w) :
    Calls Tryd.prog 12 #[.string s] w (Scanned 26 s w) := by
  obtain ⟨i0, hi, hz0, hz1', hz2⟩ := info_parts infoF
  go_enter Tryd.func12, Tryd.ntmps12
  go_wp2_with fail
  go_loopw [7] (fun v wr => UptoC s w v wr) (fun _ wr => s.size - placeOf wr (w.heap.size + 1))
  case atStart =>
    refine ⟨0, s.size + 1, [], by omega, by omega, rfl, World.ownsRow_nil _ _ _ _, by go_grown, by simp, ?_, ?_, by simp⟩
    · rw [Below.heap_alloc _ _ _ (by simp)]
      exact heap_alloc_new w _
    · have := heap_alloc_new (w.alloc (.cells #[.string s] 9)) (.cells #[.int .i64 0] 3)
      simpa using this
  case round =>
    obtain ⟨m, f, acc, hm, hf, hsc, hown, hbel, hal, h_s, h_a, hz⟩ := hrel
    have c_s := cell_of_one h_s
    have c_a := cell_of_one h_a
    by_cases hlt : m < s.size
    · have hgz : (s.extract m s.size).size = s.size - m := len_of s m s.size (Nat.le_refl _)
      have hnext := Lib.hid (next_any s hs m hm w.heap.size (w.heap.size + 1) wr (ht.below hbel) h_s h_a)
      have hgo := gotF_ok (s.extract m s.size)
      obtain ⟨f, rfl⟩ : ∃ g, f = g + 1 := ⟨f - 1, by omega⟩
      have hpl := Lib.hid (place_of h_a)
      replace h_s := Lib.hid h_s
      replace h_a := Lib.hid h_a
      by_cases he : (gotF (s.extract m s.size)).err = 0
      · have hg := hgo he
        rw [hgz] at hg
        have hsm := scan_more f s m hlt he
        rw [hsm] at hsc
        clear hsm hgz hgo
        generalize gotF (s.extract m s.size) = g at *
        obtain ⟨gk, gd, gz, ge⟩ := g
        simp only at he hg hsc
        subst he
        obtain ⟨hg0, hg1, hg2, hg3⟩ := hg
        replace hsc := Lib.hid hsc
        replace hown := Lib.hid hown
        replace hbel := Lib.hid hbel
        go_wp2_with fail
        refine hnext.out.mono ?_
        rintro e w1 ⟨rfl, hgr, h_a1⟩
        simp only at h_a1
        have hown1 := own_apart hown.out hgr (by omega)
        have hbel1 := hbel.out.grown hgr hbel.out.size (by intro k hk; injection hk with hk; omega)
        have h_s1 : w1.heap[w.heap.size]? = some (.cells #[.string s] 9 (0, 0)) := (hgr.block _ (lt_of_block h_s.out) (by simp)).trans h_s.out
        have hz1 : w.heap.size + 2 ≤ w1.heap.size := Nat.le_trans hz hgr.size
        replace h_s1 := Lib.hid h_s1
        replace h_a1 := Lib.hid h_a1
        clear hnext hown hbel hgr c_a c_s h_s h_a hz
        go_wp2_with (at_builtin; refine wpList_append_own _ rfl _ _ 34 rfl (w.heap.size + 2) 26 i0 (.agg #[.int .i64 0, .string ByteArray.empty]) 2 24 Tryd.underlying34 hi hz0 hz1' hz2 rfl (by decide) _ _ _ rfl ((hown1.alloc _).alloc _) ⟨w1.heap.size + 1, 0, none⟩ 1 1 [.int .i64 (gk : Int), .string gd] rfl rfl ?c1 ?c2 ?c3 ?c4 ?c5 ?_)
        case c1 => exact news2 _ _ _ _ _ (by simp)
        case c2 => exact one2 _ _
        case c3 => unfold maxLen; omega
        case c4 => omega
        case c5 => simp; omega
        intro v' w2 hown2 hgrow _
        have hbel2 := ((hbel1.alloc hbel1.size _).alloc (hbel1.alloc hbel1.size _).size _).grown hgrow ((hbel1.alloc hbel1.size _).alloc (hbel1.alloc hbel1.size _).size _).size (fun k hk => by have := (hown1.lt k hk).1; omega)
        have h_s2 := (hgrow.block w.heap.size (by simp; omega) (by intro e; have := (hown1.lt _ e.symm).1; omega)).trans (((Below.heap_alloc _ _ _ (by simp; omega)).trans (Below.heap_alloc _ _ _ (by omega))).trans h_s1.out)
        have h_a2 := (hgrow.block (w.heap.size + 1) (by simp; omega) (by intro e; have := (hown1.lt _ e.symm).1; omega)).trans (((Below.heap_alloc _ _ _ (by simp; omega)).trans (Below.heap_alloc _ _ _ (by omega))).trans h_a1.out)
        have hz2' : w.heap.size + 2 ≤ w2.heap.size := by have := hgrow.size; simp at this; omega
        have hup := Lib.hid (upto_nextC hg0 hg1 hlt hf hsc.out hown2 hbel2 hal h_s2 h_a2 hz2')
        have hpl2 := Lib.hid (place_of h_a2)
        clear hown1 hbel1 hown2 hgrow hbel2 h_s2 h_a2 h_s1 h_a1
        go_wp2_with fail
        go_roundw
        case rel => exact hup.out
        case measure => rw [hpl.out, hpl2.out]; omega
      · have hsm := scan_err f s m hlt he
        rw [hsm, List.append_nil] at hsc
        clear hsm hgz
        have hx : (((gotF (s.extract m s.size)).err : Int) != 0) = true := by rw [bne_iff_ne]; exact fun h => he (by exact_mod_cast h)
        have hsz0 := gotF_err _ he
        have hgs : (gotF (s.extract m s.size)).size = 0 := by rw [hsz0]; rfl
        clear hsz0
        generalize gotF (s.extract m s.size) = g at *
        obtain ⟨gk, gd, gz, ge⟩ := g
        simp only at he hx hsc hgs
        subst hgs
        replace hsc := Lib.hid hsc
        replace hown := Lib.hid hown
        replace hbel := Lib.hid hbel
        clear hgo he
        go_wp2_with fail
        refine hnext.out.mono ?_
        rintro e w1 ⟨rfl, hgr, h_a1⟩
        simp only [Nat.add_zero] at h_a1
        have hown1 := own_apart hown.out hgr (by omega)
        have hbel1 := hbel.out.grown hgr hbel.out.size (by intro k hk; injection hk with hk; omega)
        have c_a1 := cell_of_one h_a1
        have l_a1 := lt_of_block h_a1
        have n_a1 := Nat.ne_of_lt l_a1
        clear hnext hown hbel hgr h_a1 c_a c_s h_s h_a hz
        replace hown1 := Lib.hid hown1
        go_wp2_with fail
        go_quiet (fail)
        go_wp2
        go_ret3
        exact scanned_at hsc.out (own_le (hown1.out.alloc _) (by omega)) (below_drewN (hbel1.alloc hbel1.size _) _)
    · obtain rfl : m = s.size := by omega
      rw [scan_end f s s.size (Nat.le_refl _), List.append_nil] at hsc
      replace hsc := Lib.hid hsc
      go_wp2_with fail
      go_quiet (fail)
      go_wp2
      go_ret3
      exact scanned_at hsc.out (own_le hown (by omega)) (below_drewN hbel _)
end Frm
end Go.Proofs.YtcjfnkgjjhlbnaaDoor
