/- What the document's own Scan returns: of any bytes all frames from the front on, how many bytes are theirs, and what stopped it. It leaves alone what was there before. Condition: a text of at most 1000000000 bytes. -/
import Derived.Test.YtcjfnkgjjhlbnaaDoorFrameGetRef
import Derived.Test.YtcjfnkgjjhlbnaaDoorFrameRows
import Derived.OwnWalk
namespace Go.Proofs.YtcjfnkgjjhlbnaaDoor
open Go.RowKit
namespace Frm
open Dig Crc

theorem infoRF : (Tryd.prog.info? 28).map (fun i => (i.zero, i.size, i.bytes)) = some (some (.agg #[.int .i64 0, .string ByteArray.empty]), 2, 24) := by kernel_rfl

/-- What a scan leaves: a row of its own with the frames. -/
def Scanned (t : TypeId) (s : ByteArray) (w : World) (e : Ending) (w' : World) : Prop :=
  ∃ v, e = .returned (.tuple #[v, .int .i64 ((scanF (s.size + 1) s 0).2.1 : Int), .int .i64 ((scanF (s.size + 1) s 0).2.2 : Int)]) ∧
    w'.ownsRow w.heap.size t 2 v (scanF (s.size + 1) s 0).1.length (cellsL (scanF (s.size + 1) s 0).1) ∧ Below w.heap.size w w'
/-- What holds at the head of each round. -/
def Upto (t : TypeId) (s : ByteArray) (w : World) (v n : Value) (wr : World) : Prop :=
  ∃ (m f : Nat) (acc : List (Nat × ByteArray)), m ≤ s.size ∧ s.size < m + f ∧ n = .int .i64 (m : Int) ∧ scanF (s.size + 1) s 0 = (acc ++ (scanF f s m).1, (scanF f s m).2) ∧
    wr.ownsRow w.heap.size t 2 v acc.length (cellsL acc) ∧ Below w.heap.size w wr ∧ acc.length ≤ m

theorem scanned_at {t : TypeId} {s : ByteArray} {w w2 : World} {v : Value} {acc : List (Nat × ByteArray)} {m e : Nat} (hsc : scanF (s.size + 1) s 0 = (acc, m, e)) (hown : w2.ownsRow w.heap.size t 2 v acc.length (cellsL acc)) (hb : Below w.heap.size w w2) :
    Scanned t s w (.returned (.tuple #[v, .int .i64 (m : Int), .int .i64 (e : Int)])) w2 := ⟨v, by rw [hsc], by rw [hsc]; exact hown, hb⟩
theorem news2 (W : World) (a b : Value) (t : TypeId) (g : Nat) (hg : g = W.heap.size) : ∀ (j : Nat) (u : Value), [a, b][j]? = some u → (W.alloc (.cells #[a, b] t)).cell? ((⟨g, 0, none⟩ : Addr).add j) = some u := by
  subst hg
  intro j u hu
  have hadd : (⟨W.heap.size, 0, none⟩ : Addr).add j = ⟨W.heap.size, j, none⟩ := by unfold Addr.add; split <;> simp_all
  rw [hadd, World.cell?_alloc_at _ _ _ _ rfl]
  match j, hu with
  | 0, hu => simpa using hu
  | 1, hu => simpa using hu
theorem one2 (k : Int) (d : ByteArray) : ∀ u ∈ [Value.int .i64 k, Value.string d], u.oneCell' = true := by
  intro u hu
  simp only [List.mem_cons, List.not_mem_nil, or_false] at hu
  rcases hu with rfl | rfl <;> rfl
/-- A round more. -/
theorem upto_next {t : TypeId} {s : ByteArray} {w w2 : World} {v : Value} {acc : List (Nat × ByteArray)} {m f k z : Nat} {d : ByteArray} (hz0 : 0 < z) (hz : z ≤ s.size - m) (hm : m < s.size) (hf : s.size < m + (f + 1))
    (hsc : scanF (s.size + 1) s 0 = (acc ++ (k, d) :: (scanF f s (m + z)).1, (scanF f s (m + z)).2)) (hown : w2.ownsRow w.heap.size t 2 v (acc.length + 1) (cellsL acc ++ [.int .i64 (k : Int), .string d])) (hb : Below w.heap.size w w2) (hal : acc.length ≤ m) :
    Upto t s w v (.int .i64 ((m : Int) + (z : Int))) w2 := by
  refine ⟨m + z, f, acc ++ [(k, d)], by omega, by omega, by simp, ?_, ?_, hb, by simp; omega⟩
  · rw [hsc, List.append_assoc]; rfl
  · rw [List.length_append, cellsL_append]; exact hown

set_option maxHeartbeats 800000 in
theorem refscan_any (s : ByteArray) (hs : s.size ≤ 1000000000) (w : World) :
    Calls Tryd.prog 13 #[.string s] w (Scanned 28 s w) := by
  obtain ⟨i0, hi, hz0, hz1, hz2⟩ := info_parts infoRF
  go_enter Tryd.func13, Tryd.ntmps13
  go_wp2_with fail
  go_loopw [5, 6] (fun v n wr => Upto 28 s w v n wr) (fun _ n _ => s.size - (intOf n).toNat)
  case atStart => exact ⟨0, s.size + 1, [], by omega, by omega, rfl, rfl, World.ownsRow_nil _ _ _ _, Below.refl _ _, by simp⟩
  case round =>
    obtain ⟨m, f, acc, hm, hf, rfl, hsc, hown, hbel, hal⟩ := hrel
    by_cases hlt : m < s.size
    · have hgz : (s.extract m s.size).size = s.size - m := len_of s m s.size (Nat.le_refl _)
      have hget := Lib.hid (refgot_any (s.extract m s.size) (by omega))
      have hgo := gotF_ok (s.extract m s.size)
      obtain ⟨f, rfl⟩ : ∃ g, f = g + 1 := ⟨f - 1, by omega⟩
      by_cases he : (gotF (s.extract m s.size)).err = 0
      · have hg := hgo he
        rw [hgz] at hg
        have hsm := scan_more f s m hlt he
        rw [hsm] at hsc
        clear hsm hgz hgo
        generalize gotF (s.extract m s.size) = g at *
        obtain ⟨gk, gd, gz, ge⟩ := g
        simp only at he hg hsc hget
        subst he
        obtain ⟨hg0, hg1, hg2, hg3⟩ := hg
        replace hsc := Lib.hid hsc
        replace hown := Lib.hid hown
        replace hbel := Lib.hid hbel
        go_wp2_with fail
        refine (hget.out _).mono ?_
        rintro e w1 ⟨rfl, hb1⟩
        have hown1 := own_below hown.out hb1
        have hbel1 := hbel.out.trans (hb1.mono hbel.out.size)
        clear hown hbel hget
        go_wp2_with (at_builtin; refine wpList_append_own _ rfl _ _ 37 rfl w.heap.size 28 i0 (.agg #[.int .i64 0, .string ByteArray.empty]) 2 24 Tryd.underlying37 hi hz0 hz1 hz2 rfl (by decide) _ _ _ rfl ((hown1.alloc _).alloc _) ⟨w1.heap.size + 1, 0, none⟩ 1 1 [.int .i64 (gk : Int), .string gd] rfl rfl ?c1 ?c2 ?c3 ?c4 ?c5 ?_)
        case c1 => exact news2 _ _ _ _ _ (by simp)
        case c2 => exact one2 _ _
        case c3 => unfold maxLen; omega
        case c4 => omega
        case c5 => exact ((hbel1.alloc hbel1.size _).alloc ((hbel1.alloc hbel1.size _).size) _).size
        intro v' w2 hown2 hgrow _
        have hbel2 := ((hbel1.alloc hbel1.size _).alloc (hbel1.alloc hbel1.size _).size _).grown hgrow ((hbel1.alloc hbel1.size _).alloc (hbel1.alloc hbel1.size _).size _).size (fun k hk => ((hown1.lt k hk).1))
        have hup := Lib.hid (upto_next hg0 hg1 hlt hf hsc.out hown2 hbel2 hal)
        clear hown1 hbel1 hown2 hgrow hbel2
        go_wp2_with fail
        go_roundw
        case rel => exact hup.out
        case measure => simp [intOf]; omega
      · have hsm := scan_err f s m hlt he
        rw [hsm, List.append_nil] at hsc
        clear hsm hgz
        have hx : (((gotF (s.extract m s.size)).err : Int) != 0) = true := by rw [bne_iff_ne]; exact fun h => he (by exact_mod_cast h)
        generalize gotF (s.extract m s.size) = g at *
        obtain ⟨gk, gd, gz, ge⟩ := g
        simp only at he hx hsc hget
        replace hsc := Lib.hid hsc
        replace hown := Lib.hid hown
        clear hgo he
        go_wp2_with fail
        refine (hget.out _).mono ?_
        rintro e w1 ⟨rfl, hb1⟩
        go_wp2_with fail
        go_ret3
        exact scanned_at hsc.out ((own_below hown.out hb1).alloc _) ((hbel.trans (hb1.mono hbel.size)).alloc (Nat.le_trans hbel.size hb1.size) _)
    · obtain rfl : m = s.size := by omega
      rw [scan_end f s s.size (Nat.le_refl _), List.append_nil] at hsc
      replace hsc := Lib.hid hsc
      go_wp2_with fail
      go_ret3
      exact scanned_at hsc.out hown hbel
end Frm
end Go.Proofs.YtcjfnkgjjhlbnaaDoor
