/- For all rows of frames and every cut FrameBack returns true. Conditions: the table's two cells; the row's cells read as frames. -/
import Derived.Test.YtcjfnkgjjhlbnaaDoorFrameSame
import Derived.Test.YtcjfnkgjjhlbnaaDoorFrameTells
import Derived.Test.YtcjfnkgjjhlbnaaDoorFrameBackPure
import Derived.Lib.QuietBelow
import Derived.Deep.CutBlock
import Derived.Deep.DeepCutAuto
import Derived.Outline
namespace Go.Proofs.YtcjfnkgjjhlbnaaDoor
open Go.RowKit
namespace Frm
open Dig Crc

/-- A row of frames that came in. -/
def FramesAt (fs : List (Int × ByteArray)) (A : Option Addr) (w : World) : Prop :=
  0 < fs.length → ∃ b off, A = some ⟨b, off, none⟩ ∧ b < w.heap.size ∧ ∀ i (h : i < fs.length), w.cell? ⟨b, off + i * 2, none⟩ = some (.int .i64 fs[i].1) ∧ w.cell? ⟨b, off + i * 2 + 1, none⟩ = some (.string fs[i].2) ∧
    -9223372036854775808 ≤ fs[i].1 ∧ fs[i].1 ≤ 9223372036854775807 ∧ fs[i].2.size ≤ 9223372036854775807

/-- What holds at the head of each round: the first k frames are gone through. -/
def Gone (fs : List (Int × ByteArray)) (n : Nat) (w : World) (sv ev iv kv : Value) (wr : World) : Prop :=
  ∃ (k : Nat) (S : ByteArray), k ≤ n ∧ k ≤ 20 ∧ kv = .int .i64 (k : Int) ∧ sv = .string S ∧ S.data.toList = allA (okl (fs.take k)) ∧ (∀ p ∈ fs.take k, p.2.size ≤ 2000) ∧
    wr.ownsRow w.heap.size 28 2 iv (okl (fs.take k)).length (cellsL (okl (fs.take k))) ∧ wr.ownsRow w.heap.size 3 1 ev (okl (fs.take k)).length (endsL (okl (fs.take k))) ∧ Below w.heap.size w wr

theorem okl_le (l : List (Int × ByteArray)) : (okl l).length ≤ l.length := by
  induction l with
  | nil => simp [okl]
  | cons p l ih => simp only [okl]; split <;> simp <;> omega
theorem okl_ok (l : List (Int × ByteArray)) (h : ∀ p ∈ l, p.2.size ≤ 2000) : okF (okl l) ∧ ∀ p ∈ okl l, p.2.size ≤ 2000 := by
  induction l with
  | nil => exact ⟨fun p hp => by simp [okl] at hp, fun p hp => by simp [okl] at hp⟩
  | cons p l ih =>
    have h2 := ih (fun q hq => h q (by simp [hq]))
    simp only [okl]
    split
    · exact h2
    · rename_i hk
      have hp := h p (by simp)
      refine ⟨fun q hq => ?_, fun q hq => ?_⟩
      · rcases List.mem_cons.1 hq with rfl | hq
        · exact ⟨by simp; omega, by simp; omega, by simp; omega⟩
        · exact h2.1 q hq
      · rcases List.mem_cons.1 hq with rfl | hq
        · exact hp
        · exact h2.2 q hq
theorem exit_gone {fs : List (Int × ByteArray)} {w wr : World} {ev iv : Value} {k : Nat} {S : ByteArray} (hk : k ≤ 20) (hS : S.data.toList = allA (okl (fs.take k))) (hsm : ∀ p ∈ fs.take k, p.2.size ≤ 2000)
    (howi : wr.ownsRow w.heap.size 28 2 iv (okl (fs.take k)).length (cellsL (okl (fs.take k)))) (howe : wr.ownsRow w.heap.size 3 1 ev (okl (fs.take k)).length (endsL (okl (fs.take k)))) (hbel : Below w.heap.size w wr) :
    ∃ (l : List (Nat × ByteArray)) (T : ByteArray), Value.string S = .string T ∧ T.data.toList = allA l ∧ l.length ≤ 20 ∧ okF l ∧ (∀ p ∈ l, p.2.size ≤ 2000) ∧
    wr.ownsRow w.heap.size 28 2 iv l.length (cellsL l) ∧ wr.ownsRow w.heap.size 3 1 ev l.length (endsL l) ∧ Below w.heap.size w wr := by
  have h := okl_ok _ hsm
  have h2 := okl_le (fs.take k)
  exact ⟨okl (fs.take k), S, rfl, hS, by rw [List.length_take] at h2; omega, h.1, h.2, howi, howe, hbel⟩

/-- How many are whole, where they end, when the first j are gone through. -/
def Counted (l : List (Nat × ByteArray)) (W : Nat) (a b i : Value) : Prop :=
  ∃ j : Nat, j ≤ l.length ∧ i = .int .i64 (j : Int) ∧ ((j ≤ W ∧ a = .int .i64 (j : Int) ∧ b = .int .i64 (((allA (l.take j)).length : Nat) : Int)) ∨ (W < j ∧ a = .int .i64 (W : Int) ∧ b = .int .i64 (((allA (l.take W)).length : Nat) : Int)))
theorem counted_yes {l : List (Nat × ByteArray)} {W j : Nat} (h : j < W) (hl : j < l.length) : Counted l W (.int .i64 ((j : Int) + 1)) (.int .i64 (((allA (l.take (j + 1))).length : Nat) : Int)) (.int .i64 ((j : Int) + 1)) :=
  ⟨j + 1, by omega, by simp, .inl ⟨by omega, by simp, rfl⟩⟩
theorem counted_end {l : List (Nat × ByteArray)} {W j : Nat} (h : j ≤ W) (h2 : ¬ j < W) (hl : j < l.length) : Counted l W (.int .i64 (j : Int)) (.int .i64 (((allA (l.take j)).length : Nat) : Int)) (.int .i64 ((j : Int) + 1)) := by
  obtain rfl : j = W := by omega
  exact ⟨j + 1, by omega, by simp, .inr ⟨by omega, rfl, rfl⟩⟩
theorem counted_past {l : List (Nat × ByteArray)} {W j : Nat} (h : W < j) (hl : j < l.length) : Counted l W (.int .i64 (W : Int)) (.int .i64 (((allA (l.take W)).length : Nat) : Int)) (.int .i64 ((j : Int) + 1)) :=
  ⟨j + 1, by omega, by simp, .inr ⟨by omega, rfl, rfl⟩⟩
theorem counted_done {l : List (Nat × ByteArray)} {W j : Nat} {a b : Value} (h : l.length ≤ j) (hW : W ≤ l.length)
    (hab : (j ≤ W ∧ a = .int .i64 (j : Int) ∧ b = .int .i64 (((allA (l.take j)).length : Nat) : Int)) ∨ (W < j ∧ a = .int .i64 (W : Int) ∧ b = .int .i64 (((allA (l.take W)).length : Nat) : Int))) :
    a = .int .i64 (W : Int) ∧ b = .int .i64 (((allA (l.take W)).length : Nat) : Int) := by
  rcases hab with ⟨h1, h2, h3⟩ | ⟨_, h2, h3⟩
  · obtain rfl : j = W := by omega
    exact ⟨h2, h3⟩
  · exact ⟨h2, h3⟩

theorem cells_prefix (l : List (Nat × ByteArray)) (W : Nat) (j : Nat) (u : Value) (h : (cellsL (l.take W))[j]? = some u) : (cellsL l)[j]? = some u := by
  have e : cellsL l = cellsL (l.take W) ++ cellsL (l.drop W) := by rw [← cellsL_append, List.take_append_drop]
  rw [e, List.getElem?_append_left (List.getElem?_eq_some_iff.1 h).1, h]

theorem take_short {fs : List (Int × ByteArray)} {k : Nat} {p : Int × ByteArray} (htk : fs.take (k + 1) = fs.take k ++ [p]) (hp : p.2.size ≤ 2000) (hsm : ∀ q ∈ fs.take k, q.2.size ≤ 2000) : ∀ q ∈ fs.take (k + 1), q.2.size ≤ 2000 := by
  intro q hq
  rw [htk] at hq
  rcases List.mem_append.1 hq with h | h
  · exact hsm q h
  · obtain rfl : q = p := by simpa using h
    exact hp
theorem gone_skip {fs : List (Int × ByteArray)} {n k : Nat} {w wr w2 : World} {ev iv : Value} {S : ByteArray} {kx : Int} {d : ByteArray} (hkn : k < n) (hk2 : k < 20) (htk : fs.take (k + 1) = fs.take k ++ [(kx, d)]) (hkx : kx < 1 ∨ 255 < kx) (hd : d.size ≤ 2000)
    (hS : S.data.toList = allA (okl (fs.take k))) (hsm : ∀ p ∈ fs.take k, p.2.size ≤ 2000)
    (howi : wr.ownsRow w.heap.size 28 2 iv (okl (fs.take k)).length (cellsL (okl (fs.take k)))) (howe : wr.ownsRow w.heap.size 3 1 ev (okl (fs.take k)).length (endsL (okl (fs.take k)))) (hbel : Below w.heap.size w wr) (hb : Below wr.heap.size wr w2) :
    Gone fs n w (.string S) ev iv (.int .i64 ((k : Int) + 1)) w2 := by
  have e : okl (fs.take (k + 1)) = okl (fs.take k) := by rw [htk, okl_append]; simp [okl, hkx]
  refine ⟨k + 1, S, by omega, by omega, by simp, rfl, by rw [e]; exact hS, take_short htk hd hsm, ?_, ?_, hbel.trans (hb.mono hbel.size)⟩
  · rw [e]; exact own_below howi hb
  · rw [e]; exact own_below howe hb

theorem infoInt : (Tryd.prog.info? 3).map (fun i => (i.zero, i.size, i.bytes)) = some (some (.int .i64 0), 1, 8) := by kernel_rfl
theorem own_ne {w : World} {b1 b2 s1 s2 n1 n2 : Nat} {e1 e2 : TypeId} {v1 v2 : Value} {x1 x2 : List Value} (h1 : w.ownsRow b1 e1 s1 v1 n1 x1) (h2 : w.ownsRow b2 e2 s2 v2 n2 x2) (hne : e1 ≠ e2) : v1.ownBlock = none ∨ v1.ownBlock ≠ v2.ownBlock := by
  rcases h1.2 with ⟨rfl, _⟩ | ⟨g, cap, cur, rfl, _, hh, _⟩
  · exact .inl rfl
  · rcases h2.2 with ⟨rfl, _⟩ | ⟨g2, cap2, cur2, rfl, _, hh2, _⟩
    · exact .inr (by simp [Value.ownBlock])
    · refine .inr fun e => ?_
      have : g = g2 := by simpa [Value.ownBlock] using e
      subst this
      rw [hh] at hh2
      injection hh2 with hh2
      injection hh2 with _ he
      exact hne he
theorem news1 (W : World) (a : Value) (t : TypeId) (g : Nat) (hg : g = W.heap.size) : ∀ (j : Nat) (u : Value), [a][j]? = some u → (W.alloc (.cells #[a] t)).cell? ((⟨g, 0, none⟩ : Addr).add j) = some u := by
  subst hg
  intro j u hu
  have hadd : (⟨W.heap.size, 0, none⟩ : Addr).add j = ⟨W.heap.size, j, none⟩ := by unfold Addr.add; split <;> simp_all
  rw [hadd, World.cell?_alloc_at _ _ _ _ rfl]
  match j, hu with
  | 0, hu => simpa using hu
theorem one1 (k : Int) : ∀ u ∈ [Value.int .i64 k], u.oneCell' = true := by
  intro u hu
  obtain rfl : u = Value.int .i64 k := by simpa using hu
  rfl
theorem gone_count (fs : List (Int × ByteArray)) (k : Nat) (hk : k ≤ 20) : (okl (fs.take k)).length ≤ 20 := by
  have h2 := okl_le (fs.take k)
  rw [List.length_take] at h2
  omega
theorem gone_size {fs : List (Int × ByteArray)} {k : Nat} {S : ByteArray} (hk : k ≤ 20) (hS : S.data.toList = allA (okl (fs.take k))) (hsm : ∀ p ∈ fs.take k, p.2.size ≤ 2000) : S.size ≤ 40280 := by
  have h := allA_most _ (okl_ok _ hsm).2
  have h2 := gone_count fs k hk
  rw [← hS, size_list] at h
  omega
theorem gone_more {fs : List (Int × ByteArray)} {n k : Nat} {w w4 : World} {ev iv : Value} {S : ByteArray} {kn : Nat} {d : ByteArray} (hkn : k < n) (hk2 : k < 20) (htk : fs.take (k + 1) = fs.take k ++ [((kn : Int), d)]) (hkx : ¬ ((kn : Int) < 1 ∨ 255 < (kn : Int))) (hd : d.size ≤ 2000)
    (hS : S.data.toList = allA (okl (fs.take k))) (hsm : ∀ p ∈ fs.take k, p.2.size ≤ 2000)
    (howi : w4.ownsRow w.heap.size 28 2 iv ((okl (fs.take k)).length + 1) (cellsL (okl (fs.take k)) ++ [.int .i64 (kn : Int), .string d])) (howe : w4.ownsRow w.heap.size 3 1 ev ((okl (fs.take k)).length + 1) (endsL (okl (fs.take k)) ++ [.int .i64 ((S.size : Int) + ((putA kn d).size : Int))])) (hbel : Below w.heap.size w w4) :
    Gone fs n w (.string (S ++ putA kn d)) ev iv (.int .i64 ((k : Int) + 1)) w4 := by
  have e : okl (fs.take (k + 1)) = okl (fs.take k) ++ [(kn, d)] := by rw [htk, okl_append]; simp only [okl, if_neg hkx, Int.toNat_natCast]
  have eA : (S ++ putA kn d).data.toList = allA (okl (fs.take k) ++ [(kn, d)]) := by
    rw [ByteArray.data_append, Array.toList_append, hS, allA_append]; simp [allA]
  refine ⟨k + 1, S ++ putA kn d, by omega, by omega, by simp, rfl, by rw [e]; exact eA, take_short htk hd hsm, ?_, ?_, hbel⟩
  · rw [e, List.length_append, cellsL_append]; exact howi
  · rw [e, List.length_append, endsL_snoc, ← eA, size_list, ByteArray.size_append, Int.natCast_add]; exact howe

set_option maxRecDepth 100000 in
set_option maxHeartbeats 1600000 in
theorem back_any (fs : List (Int × ByteArray)) (A : Option Addr) (n c : Nat) (at_ : Int) (hn : fs.length = n) (hmax : n ≤ 9223372036854775807) (w : World) (hf : FramesAt fs A w) (ht : Tab w) :
    Calls Tryd.prog 5 #[.slice A n c, .int .i64 at_] w fun e w' => e = .returned (.bool true) ∧ Below w.heap.size w w' := by
  obtain ⟨i0, hi, hz0, hz1, hz2⟩ := info_parts infoRF
  obtain ⟨j0, hj, hjz0, hjz1, hjz2⟩ := info_parts infoInt
  replace hn := Lib.hid hn
  replace hf := Lib.hid hf
  go_enter Tryd.func5, Tryd.ntmps5
  go_wp2_with fail
  refine (works_true _ ht).mono ?_
  rintro e w1 ⟨rfl, hb1⟩
  go_upto_block 0 with fail
  go_cut [5, 6, 7] (fun sv ev iv wr => ∃ (l : List (Nat × ByteArray)) (S : ByteArray), sv = .string S ∧ S.data.toList = allA l ∧ l.length ≤ 20 ∧ okF l ∧ (∀ p ∈ l, p.2.size ≤ 2000) ∧
    wr.ownsRow w.heap.size 28 2 iv l.length (cellsL l) ∧ wr.ownsRow w.heap.size 3 1 ev l.length (endsL l) ∧ Below w.heap.size w wr)
  case first =>
    go_wp2_with fail
    go_loopw [5, 6, 7, 8] (fun sv ev iv kv wr => Gone fs n w sv ev iv kv wr) (fun _ _ _ kv _ => 20 - (intOf kv).toNat)
    case atStart => exact ⟨0, ⟨#[]⟩, by omega, by omega, rfl, rfl, rfl, by simp, World.ownsRow_nil _ _ _ _, World.ownsRow_nil _ _ _ _, hb1⟩
    case round =>
      obtain ⟨k, S, hk, hk20, rfl, rfl, hS, hsm, howi, howe, hbel⟩ := hrel
      by_cases hex : k < n ∧ k < 20
      · obtain ⟨hkn, hk2⟩ := hex
        have hkl : k < fs.length := by rw [hn.out]; exact hkn
        obtain ⟨b, off, rfl, hbl, hcell⟩ := hf.out (by omega)
        obtain ⟨g1, g2, g3, g4, g5⟩ := hcell k hkl
        have a1 := (hbel.cell (p := ⟨b, off + k * 2, none⟩) hbl).trans g1
        have a2 := (hbel.cell (p := ⟨b, off + k * 2 + 1, none⟩) hbl).trans g2
        have hbl' : b < wr.heap.size := Nat.lt_of_lt_of_le hbl hbel.size
        have htk : fs.take (k + 1) = fs.take k ++ [fs[k]] := List.take_succ_eq_append_getElem hkl
        generalize fs[k] = p at *
        obtain ⟨kx, d⟩ := p
        simp only at g1 g2 g3 g4 g5 a1 a2
        clear g1 g2 hcell hn hf
        have i1 : (k : Int) < (n : Int) := by omega
        have i2 : (0 : Int) ≤ (k : Int) := by omega
        replace hS := Lib.hid hS
        replace htk := Lib.hid htk
        replace hsm := Lib.hid hsm
        replace howi := Lib.hid howi
        replace howe := Lib.hid howe
        replace hbel := Lib.hid hbel
        by_cases hlong : 2000 < d.size
        · go_wp2_with fail
          go_ret
          exact ⟨rfl, hbel.out⟩
        · by_cases hkx : kx < 1 ∨ 255 < kx
          · have hput := Lib.hid (put_is kx d ⟨#[]⟩ 5 (by omega) (if_pos hkx) (if_pos hkx))
            have hnx := Lib.hid (fun (w2 : World) (hb : Below wr.heap.size wr w2) => gone_skip (fs := fs) (n := n) (w := w) hkn hk2 htk.out hkx (by omega) hS.out hsm.out howi.out howe.out hbel.out hb)
            have hcl1 := fun (q : Nat) (os : Array Obj) => cell_regrown a1 q os
            have hcl2 := fun (q : Nat) (os : Array Obj) => cell_regrown a2 q os
            have htr : Tab wr := ht.below hbel.out
            replace htr := Lib.hid htr
            clear hkx
            go_wp2_with fail
            refine wp_region_quiet_below (by kernel_rfl) (by kernel_rfl) ?_
            repeat (go_big_quiet_step (exact Calls.regrown_of (hput.out _ (htr.out.below (below_regrown wr _ _)))))
            refine wpQuiet_nil ?_
            intro _ hw'
            obtain ⟨⟨dq, osq⟩, hw''⟩ := hw'
            subst hw''
            have hb9 := Lib.hid (below_regrown wr dq osq)
            generalize Sort.grow (redrawn wr dq) osq = w2 at *
            clear hcl1 hcl2 a1 a2
            have hup := Lib.hid (hnx.out w2 hb9.out)
            go_wp2_with fail
            go_roundw
            case rel => exact hup.out
            case measure => simp [intOf]; omega
          · obtain ⟨kn, rfl⟩ := Int.eq_ofNat_of_zero_le (show 0 ≤ kx by omega)
            have hput := Lib.hid (put_ok kn d (by omega) (by omega) (by omega))
            have hpz := putA_size kn d
            have hnd := nd_le d.size
            have hSz := gone_size hk20 hS.out hsm.out
            have hadd := fun (W : World) => run_string_add_sum (P := Tryd.prog) W S (putA kn d) (by omega)
            have hzz : (S ++ putA kn d).size ≤ 1000000000 := by rw [ByteArray.size_append]; omega
            have hal := gone_count fs k hk20
            have hnx := Lib.hid (fun (w4 : World) (iv' ev' : Value) h1 h2 h3 => gone_more (fs := fs) (n := n) (w := w) (w4 := w4) (iv := iv') (ev := ev') hkn hk2 htk.out (show ¬ ((kn : Int) < 1 ∨ 255 < (kn : Int)) by omega) (by omega) hS.out hsm.out h1 h2 h3)
            have hcl1 := fun (q : Nat) (os : Array Obj) => cell_regrown a1 q os
            have hcl2 := fun (q : Nat) (os : Array Obj) => cell_regrown a2 q os
            have htr : Tab wr := ht.below hbel.out
            replace htr := Lib.hid htr
            replace hadd := Lib.hid hadd
            clear hkx hpz hnd hSz
            go_wp2_with fail
            refine wp_region_quiet_below (by kernel_rfl) (by kernel_rfl) ?_
            repeat (go_big_quiet_step (exact Calls.regrown_of (hput.out _ (htr.out.below (below_regrown wr _ _)))))
            refine wpQuiet_nil ?_
            intro _ hw'
            obtain ⟨⟨dq, osq⟩, hw''⟩ := hw'
            subst hw''
            have hb9 := below_regrown wr dq osq
            generalize Sort.grow (redrawn wr dq) osq = w2 at *
            have a3 := (hb9.cell (p := ⟨b, off + k * 2, none⟩) hbl').trans a1
            have a4 := (hb9.cell (p := ⟨b, off + k * 2 + 1, none⟩) hbl').trans a2
            have hadd2 := hadd.out w2
            have howi2 := own_below howi.out hb9
            have howe2 := own_below howe.out hb9
            have hbel2 := hbel.out.trans (hb9.mono hbel.out.size)
            clear hcl1 hcl2 a1 a2 hb9 hadd howi howe hbel hput
            generalize okl (fs.take k) = l at *
            go_wp2_with (at_builtin; refine wpList_append_own _ rfl _ _ 37 rfl w.heap.size 28 i0 (.agg #[.int .i64 0, .string ByteArray.empty]) 2 24 Tryd.underlying37 hi hz0 hz1 hz2 rfl (by decide) _ _ _ rfl (howi2.alloc _) ⟨w2.heap.size, 0, none⟩ 1 1 [.int .i64 (kn : Int), .string d] rfl rfl ?c1 ?c2 ?c3 ?c4 ?c5 ?_)
            case c1 => exact news2 _ _ _ _ _ rfl
            case c2 => exact one2 _ _
            case c3 => unfold maxLen; omega
            case c4 => omega
            case c5 => exact (hbel2.alloc hbel2.size _).size
            intro v' w3 howi3 hgrow _
            have hbel3 := (hbel2.alloc hbel2.size _).grown hgrow (hbel2.alloc hbel2.size _).size (fun q hq => (howi2.lt q hq).1)
            have howe3 := (howe2.alloc _).kept hgrow (own_ne howe2 howi2 (by decide))
            clear howi2 howe2 hbel2 hgrow a3 a4 hadd2
            go_wp2_with (at_builtin; refine wpList_append_own _ rfl _ _ 43 rfl w.heap.size 3 j0 (.int .i64 0) 1 8 Tryd.underlying43 hj hjz0 hjz1 hjz2 rfl (by decide) _ _ _ rfl (howe3.alloc _) ⟨w3.heap.size, 0, none⟩ 1 1 [.int .i64 ((S.size : Int) + ((putA kn d).size : Int))] rfl rfl ?d1 ?d2 ?d3 ?d4 ?d5 ?_)
            case d1 => exact news1 _ _ _ _ rfl
            case d2 => exact one1 _
            case d3 => unfold maxLen; omega
            case d4 => omega
            case d5 => exact (hbel3.alloc hbel3.size _).size
            intro v'' w4 howe4 hgrow2 _
            have hbel4 := (hbel3.alloc hbel3.size _).grown hgrow2 (hbel3.alloc hbel3.size _).size (fun q hq => (howe3.lt q hq).1)
            have howi4 := (howi3.alloc _).kept hgrow2 (own_ne howi3 howe3 (by decide))
            have hup := Lib.hid (hnx.out w4 v' v'' howi4 howe4 hbel4)
            clear howi3 howe3 hbel3 hgrow2 howe4 howi4 hbel4
            go_wp2_with fail
            go_roundw
            case rel => exact hup.out
            case measure => simp [intOf]; omega
      · go_wp2_with fail
        all_goals
          go_meet
          exact exit_gone hk20 hS hsm howi howe hbel
  case rest =>
    obtain ⟨l, S, rfl, hS, hl20, hok, hsm, howi, howe, hbel⟩ := hcut
    have hmost := allA_most l hsm
    have hpos := allA_pos l
    rw [← hS, size_list] at hmost hpos
    have hscan := scan_any S (by omega)
    have hwh := scan_whole l hok S hS
    unfold Scanned at hscan
    rw [hwh] at hscan
    clear hwh
    replace hscan := Lib.hid hscan
    obtain ⟨A2, c2, rfl, hle2, hh2⟩ := holds_own howi
    obtain ⟨A3, c3, rfl, hle3, hh3⟩ := holds_own howe
    replace hh2 := Lib.hid hh2
    replace hh3 := Lib.hid hh3
    replace hok := Lib.hid hok
    replace hsm := Lib.hid hsm
    replace hS := Lib.hid hS
    replace hbel := Lib.hid hbel
    clear howi howe hi hz0 hz1 hz2 hf hn
    go_wp2_with fail
    refine (hscan.out _ (ht.below hbel.out)).mono ?_
    rintro e w2 ⟨v1, rfl, hown1, hb2⟩
    obtain ⟨A1, c1, rfl, hle1, hh1⟩ := holds_own hown1
    have hsame := Lib.hid (same_true l A1 A2 l.length c1 c2 rfl (by omega) w2 hh1 (hh2.out.below hb2))
    replace hh2 := Lib.hid (hh2.out.below hb2)
    replace hh3 := Lib.hid (hh3.out.below hb2)
    replace hbel := Lib.hid (hbel.out.trans (hb2.mono hbel.out.size))
    clear hown1 hb2 hh1 hscan
    go_wp2_with fail
    refine hsame.out.mono ?_
    rintro e w3 ⟨rfl, hb3⟩
    replace hh2 := Lib.hid (hh2.out.below hb3)
    replace hh3 := Lib.hid (hh3.out.below hb3)
    replace hbel := Lib.hid (hbel.out.trans (hb3.mono hbel.out.size))
    clear hsame hb3
    by_cases hemp : S.size = 0
    · have hl0 : l.length = 0 := by omega
      have hse : S.toList = [] := by rw [ByteArray.toList_eq]; exact List.length_eq_zero_iff.1 (by rw [size_list]; exact hemp)
      have hln : ((l.length : Int) == 0) = true := by rw [hl0]; rfl
      clear hl0
      go_wp2_with fail
      go_ret
      exact ⟨rfl, hbel.out⟩
    · obtain ⟨cut, hcut, hjj⟩ := pick_at at_ S.size (by omega) (by omega)
      have hse : S.toList.isEmpty = false := by
        rw [ByteArray.toList_eq]
        cases h : S.data.toList with
        | nil => exact absurd (by rw [← size_list, h]; rfl) hemp
        | cons a r => rfl
      obtain ⟨W, hW, hWj⟩ := whole_of l cut l.length (Nat.le_refl _)
      have hsc := scan_cut l hok.out S hS.out cut hcut W hW hWj
      replace hjj := Lib.hid hjj
      replace hWj := Lib.hid hWj
      go_upto_region 22 with fail
      rw [hjj.out]
      go_wp2_with fail
      have hlp : 0 < l.length := by omega
      obtain ⟨b2, rfl, hb2l, hc2⟩ := hh2.out hlp
      obtain ⟨b3, rfl, hb3l, hc3⟩ := hh3.out hlp
      replace hc2 := Lib.hid hc2
      replace hc3 := Lib.hid hc3
      replace hsc := Lib.hid hsc
      clear hh2 hh3 hjj
      go_loop [15, 16, 17] (fun a b i => Counted l W a b i) (fun _ _ i => l.length - (intOf i).toNat)
      case atStart => exact ⟨0, by omega, rfl, .inl ⟨by omega, rfl, by simp [allA]⟩⟩
      case round =>
        obtain ⟨j, hj, rfl, hab⟩ := hrel
        by_cases hlt : j < l.length
        · have hcj := hc3.out j _ (endsL_at l j hlt)
          have hwj := hWj.out j hlt
          rcases hab with ⟨hjw, rfl, rfl⟩ | ⟨hjw, rfl, rfl⟩
          · by_cases hjW : j < W
            · have hle := hwj.2 hjW
              have hnx := Lib.hid (counted_yes (l := l) (W := W) hjW hlt)
              generalize (allA (l.take (j + 1))).length = E at *
              generalize (allA (l.take j)).length = E0 at *
              clear hwj
              go_wp2_with fail
              go_round
              case rel => exact hnx.out
              case measure => simp [intOf]; omega
            · have hle : ¬ (allA (l.take (j + 1))).length ≤ cut := fun h => hjW (hwj.1 h)
              have hnx := Lib.hid (counted_end (l := l) (W := W) hjw hjW hlt)
              generalize (allA (l.take (j + 1))).length = E at *
              generalize (allA (l.take j)).length = E0 at *
              clear hwj
              go_wp2_with fail
              go_round
              case rel => exact hnx.out
              case measure => simp [intOf]; omega
          · have hle : ¬ (allA (l.take (j + 1))).length ≤ cut := fun h => by have := hwj.1 h; omega
            have hnx := Lib.hid (counted_past (l := l) (W := W) hjw hlt)
            generalize (allA (l.take (j + 1))).length = E at *
            generalize (allA (l.take W)).length = E0 at *
            clear hwj
            go_wp2_with fail
            go_round
            case rel => exact hnx.out
            case measure => simp [intOf]; omega
        · obtain ⟨rfl, rfl⟩ := counted_done (by omega) hW hab
          clear hab hWj hc3
          obtain ⟨hsc1, hEc⟩ := hsc.out
          clear hsc
          have hxz : (S.extract 0 cut).size ≤ 1000000000 := by rw [len_of S 0 cut (by omega)]; omega
          have hscan := scan_any (S.extract 0 cut) hxz
          unfold Scanned at hscan
          rw [hsc1] at hscan
          have hpre := Lib.hid (fun j u h => cells_prefix l W j u h)
          have htl : (l.take W).length = W := by rw [List.length_take]; omega
          simp only [htl] at hscan
          replace htl := Lib.hid htl
          have hht : Tab w3 := ht.below hbel.out
          generalize (allA (l.take W)).length = E at *
          clear hsc1 hxz
          by_cases hce : cut = E
          · subst hce
            simp only [if_true] at hscan
            replace hscan := Lib.hid hscan
            go_wp2_with fail
            refine (hscan.out _ hht).mono ?_
            rintro e w4 ⟨v4, rfl, hown4, hb4⟩
            obtain ⟨A4, c4, rfl, hle4, hh4⟩ := holds_own hown4
            have hsame := Lib.hid (same_true (l.take W) A4 (some ⟨b2, 0, none⟩) W c4 c2 htl.out (by omega) w4 hh4 (fun _ => ⟨b2, rfl, Nat.lt_of_lt_of_le hb2l hb4.size, fun j u hu => (hb4.cell (p := ⟨b2, j, none⟩) hb2l).trans (hc2.out j u (hpre.out j u hu))⟩))
            have hbel4 := Lib.hid (hbel.out.trans (hb4.mono hbel.out.size))
            clear hown4 hh4 hb4 hscan
            go_wp2_with fail
            refine hsame.out.mono ?_
            rintro e w5 ⟨rfl, hb5⟩
            go_wp2_with fail
            go_ret
            exact ⟨rfl, hbel4.out.trans (hb5.mono hbel4.out.size)⟩
          · simp only [if_neg hce] at hscan
            replace hscan := Lib.hid hscan
            have hne : ((cut : Int) == (E : Int)) = false := by rw [beq_eq_false_iff_ne]; omega
            go_wp2_with fail
            refine (hscan.out _ hht).mono ?_
            rintro e w4 ⟨v4, rfl, hown4, hb4⟩
            obtain ⟨A4, c4, rfl, hle4, hh4⟩ := holds_own hown4
            have hsame := Lib.hid (same_true (l.take W) A4 (some ⟨b2, 0, none⟩) W c4 c2 htl.out (by omega) w4 hh4 (fun _ => ⟨b2, rfl, Nat.lt_of_lt_of_le hb2l hb4.size, fun j u hu => (hb4.cell (p := ⟨b2, j, none⟩) hb2l).trans (hc2.out j u (hpre.out j u hu))⟩))
            have hbel4 := Lib.hid (hbel.out.trans (hb4.mono hbel.out.size))
            clear hown4 hh4 hb4 hscan
            go_wp2_with fail
            refine hsame.out.mono ?_
            rintro e w5 ⟨rfl, hb5⟩
            go_wp2_with fail
            go_ret
            exact ⟨rfl, hbel4.out.trans (hb5.mono hbel4.out.size)⟩

/-- What the argument reads as: a row of frames. -/
def IsFrames (v : Value) (w : World) : Prop := ∃ (fs : List (Int × ByteArray)) (A : Option Addr) (c : Nat), v = .slice A fs.length c ∧ fs.length ≤ 9223372036854775807 ∧ FramesAt fs A w
theorem back_true (w : World) (v : Value) (at_ : Int) (hv : IsFrames v w) (_ : -9223372036854775808 ≤ at_) (_ : at_ ≤ 9223372036854775807) (ht : Tab w) :
    Calls Tryd.prog 5 #[v, .int .i64 at_] w fun e w' => e = .returned (.bool true) ∧ Below w.heap.size w w' := by
  obtain ⟨fs, A, c, rfl, hm, hf⟩ := hv
  exact back_any fs A fs.length c at_ rfl hm w hf ht
end Frm
end Go.Proofs.YtcjfnkgjjhlbnaaDoor
