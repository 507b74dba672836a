/- Layer 12: the law RecordMany. -/
import Derived.Test.YtkachkoiajdhgaaRcLaw6
set_option maxRecDepth 100000
namespace Go.Proofs.Ytkachkoiajdhgaa
open Go.RowKit Go.Sort
namespace Rc
open Bit Dsk Ob Dig Lb
set_option linter.unusedVariables false

/-- So many times the same sample. -/
def rep (k : Int) (n : Nat) (x : Smp) : R := ⟨k, List.replicate n x, [], 0, 0⟩
theorem rep_bnd {k : Int} {n : Nat} {x : Smp} (hk : -9223372036854775808 ≤ k ∧ k ≤ 9223372036854775807) (h : BndS x) : Bnd (rep k n x) :=
  ⟨hk, fun y hy => by rw [(List.mem_replicate.1 hy).2]; exact h, fun m hm => (by cases hm), ⟨by simp [rep], by simp [rep]⟩, ⟨by simp [rep], by simp [rep]⟩⟩
theorem rep_one {x : Smp} (h : chk (rep 1 1 x) = 0) : Lb.Ok x.1 := by
  rcases Rc.chk_zero.1 h with h | h
  · exact h.ok x (by simp [rep])
  · exact absurd h.kind (by simp [rep])
theorem rep_few {n : Nat} {x : Smp} (h : Lb.Ok x.1) (h1 : 1 ≤ n) (h32 : n ≤ 32) : chk (rep 1 n x) = 0 :=
  Rc.chk_zero.2 (.inl ⟨rfl, rfl, rfl, rfl, by simp [rep]; exact h1, by simp [rep]; exact h32, fun y hy => by rw [(List.mem_replicate.1 hy).2]; exact h⟩)
theorem rep_range {n : Nat} {x : Smp} (h : n < 1 ∨ 32 < n) : chk (rep 1 n x) = 2 :=
  Rc.chk_range (fun h => h.1 rfl) (by rintro (⟨-, h | h | h⟩ | ⟨h, -⟩) <;> exact h rfl) ⟨rfl, by simp only [rep, List.length_replicate]; exact h⟩
theorem rep_del {n : Nat} {x : Smp} (h : 1 ≤ n) : chk (rep 2 n x) = 3 :=
  Rc.chk_field (fun h => h.2 rfl) (.inr ⟨by simp [rep], by simp [rep]; omega⟩)
theorem rep_none {x : Smp} : chk (rep 2 0 x) = 0 := Rc.chk_zero.2 (.inr ⟨rfl, rfl, by simp [rep]; decide +kernel, by simp [rep]⟩)
theorem rep_view {w : World} {S : Nat → Prop} {A : Option Addr} {c n : Nat} {s : Rw.Sl} {x : Smp} {k : Int} (hx : Lb.View w All s.v x.1) (hm : Rw.View layS w S (.slice A n c) (List.replicate n (s, x.2.1, x.2.2))) :
    RView w All (.agg #[.int .i64 k, .slice A n c, .slice none 0 0, .int .i64 0, .int .i64 0]) (rep k n x) := by
  refine ⟨⟨A, n, c⟩, ⟨none, 0, 0⟩, rfl, ⟨List.replicate n (s, x.2.1, x.2.2), hm.all, by simp [rep], fun i h1 h2 => ?_⟩, Rw.View.noth _ _ _⟩
  have e1 : (List.replicate n (s, x.2.1, x.2.2))[i] = (s, x.2.1, x.2.2) := List.getElem_replicate ..
  have e2 : (rep k n x).smp[i] = x := List.getElem_replicate ..
  rw [e1, e2]
  exact ⟨rfl, rfl, hx⟩
/-- How far the loop is: the record's box, its row. -/
structure Lp (w1 : World) (g : Nat) (A : Option Addr) (c n : Nat) (e : RS) (w : World) : Prop where
  box : Five 25 g ⟨.int .i64 1, .slice A n c, .slice none 0 0, .int .i64 0, .int .i64 0⟩ w
  row : Rw.Mine layS 43 w (.slice A n c) (List.replicate n e)
  own : ∀ b, (Value.slice A n c).ownBlock = some b → w1.heap.size ≤ b ∧ b ≠ g
  new : New0 w1 w
theorem Lp.next {w1 : World} {g : Nat} {A : Option Addr} {c n : Nat} {e : RS} {w w' : World} (h : Lp w1 g A c n e w) (hu : New0 w w') : Lp w1 g A c n e w' := ⟨Five.new h.box hu, h.row.new hu, h.own, h.new.trans hu⟩
set_option maxHeartbeats 12800000 in
theorem many_true (W : World) (vx : Value) (n : Int) (ox : IsSmp vx W) (hn0 : -9223372036854775808 ≤ n) (hn1 : n ≤ 9223372036854775807) :
    Calls Try.prog 7 #[vx, .int .i64 n] W fun e W' => e = .returned (.bool true) ∧ Below W.heap.size W W' := by
  obtain ⟨⟨sa, sn, sc⟩, ⟨xl, t, q⟩, rfl, hvx, hbx⟩ := ox
  obtain ⟨A1, c1, es, -, -⟩ := Rw.View.shape hvx
  injection es with es1 es2 es3
  subst es1 es2 es3
  dsimp only [Rw.Sl.v] at hvx ⊢
  have HW := Lib.hid (fun w => works_true w)
  have uy := (Upon.refl (fun _ => False) W).alloc (.cells #[.slice sa xl.length sc, .int .i64 t, .int .u64 (q : Int)] 43 (0, 0))
  have hT0 : Tri 43 W.heap.size (.slice sa xl.length sc) (.int .i64 t) (.int .u64 (q : Int)) (W.alloc (.cells #[.slice sa xl.length sc, .int .i64 t, .int .u64 (q : Int)] 43 (0, 0))) := cell_new W _
  obtain ⟨wx, hwx⟩ : ∃ wx, W.alloc (.cells #[.slice sa xl.length sc, .int .i64 t, .int .u64 (q : Int)] 43 (0, 0)) = wx := ⟨_, rfl⟩
  rw [hwx] at uy hT0
  have hY := Lib.hid (fun w' (hu : New0 wx w') => (Tri.cells (show Tri 43 W.heap.size _ _ _ w' from (hu.block _ (Array.getElem?_eq_some_iff.1 hT0).1 fun f => f).trans hT0)))
  have hux := Lib.hid uy
  have hVX := Lib.hid (fun w (hu : New0 W w) => Rw.View.new hvx hu)
  replace hwx := Lib.hid hwx
  replace hbx := Lib.hid hbx
  obtain ⟨M, hM⟩ : ∃ M : Nat, IntKind.u64.wrap n = (M : Int) := ⟨(IntKind.u64.wrap n).toNat, by rw [IntKind.wrap_u64]; omega⟩
  have hM2 : ((M : Int)).tmod 40 = ((M % 40 : Nat) : Int) := by rw [Int.tmod_eq_emod_of_nonneg (by omega)]; omega
  obtain ⟨N, hN⟩ : ∃ N, M % 40 = N := ⟨_, rfl⟩
  have hN40 : N < 40 := by omega
  rw [hN] at hM2
  have hM3 : IntKind.i64.wrap (N : Int) = (N : Int) := by rw [IntKind.wrap_i64]; omega
  clear hvx uy hT0 hN
  obtain ⟨z, hz⟩ : ∃ z, chk (rep 1 1 (xl, t, q)) = z := ⟨_, rfl⟩
  go_enter Try.func7, Try.ntmps7
  go_wp2_with fail
  rw [hwx.out]
  refine (HW.out _).mono ?_
  rintro e w1 ⟨rfl, hu1⟩
  have hu1' := Lib.hid (hux.out.trans hu1)
  replace hY := Lib.hid (fun w' (hu : New0 w1 w') => hY.out w' (hu1.trans hu))
  clear HW hwx hu1 hux
  have ub := (Upon.refl (fun _ => False) w1).alloc (.cells #[.int .i64 1, .slice none 0 0, .slice none 0 0, .int .i64 0, .int .i64 0] 25 (0, 0))
  have hF : Five 25 w1.heap.size ⟨.int .i64 1, .slice none 0 0, .slice none 0 0, .int .i64 0, .int .i64 0⟩ (w1.alloc (.cells #[.int .i64 1, .slice none 0 0, .slice none 0 0, .int .i64 0, .int .i64 0] 25 (0, 0))) := cell_new w1 (.cells #[.int .i64 1, .slice none 0 0, .slice none 0 0, .int .i64 0, .int .i64 0] 25 (0, 0))
  obtain ⟨y0, y1, y2⟩ := hY.out _ ub
  have hXi := view_smp (w1.alloc (.cells #[.int .i64 1, .slice none 0 0, .slice none 0 0, .int .i64 0, .int .i64 0] 25 (0, 0))) ⟨sa, xl.length, sc⟩ t q
  have es8 : (w1.alloc (.cells #[.int .i64 1, .slice none 0 0, .slice none 0 0, .int .i64 0, .int .i64 0] 25 (0, 0))).heap.size = w1.heap.size + 1 := by simp
  rw [es8] at hXi
  have uc := ub.alloc (.cells #[.slice sa xl.length sc, .int .i64 t, .int .u64 (q : Int)] 43 (0, 0))
  have hRV := rep_view (k := 1) (n := 1) (x := (xl, t, q)) (hVX.out _ (hu1'.out.trans uc)) hXi
  have HO := Lib.hid (own_any _ _ _ hRV (rep_bnd (by decide) hbx.out) (by simp [rep]) (by simp [rep]))
  have HC := Lib.hid (fun w S u hv => by have := check_any w S u (rep 1 1 (xl, t, q)) hv (rep_bnd (by decide) hbx.out); rw [hz] at this; exact this)
  have hL0 : Lp w1 w1.heap.size none 0 0 ((⟨sa, xl.length, sc⟩ : Rw.Sl), t, q) ((w1.alloc (.cells #[.int .i64 1, .slice none 0 0, .slice none 0 0, .int .i64 0, .int .i64 0] 25 (0, 0))).alloc (.cells #[.slice sa xl.length sc, .int .i64 t, .int .u64 (q : Int)] 43 (0, 0))) :=
    ⟨Five.alloc hF _, Rw.Mine.nil _ _ _, fun b hb => (by cases hb), uc⟩
  obtain ⟨wb, hwb⟩ : ∃ wb, (w1.alloc (.cells #[.int .i64 1, .slice none 0 0, .slice none 0 0, .int .i64 0, .int .i64 0] 25 (0, 0))).alloc (.cells #[.slice sa xl.length sc, .int .i64 t, .int .u64 (q : Int)] 43 (0, 0)) = wb := ⟨_, rfl⟩
  rw [hwb] at HO hL0
  replace hwb := Lib.hid hwb
  replace hL0 := Lib.hid hL0
  clear ub hF hXi es8 uc hRV
  go_wp2_with fail
  rw [hwb.out]
  refine HO.out.mono ?_
  rintro e w2 ⟨u, rfl, hu, hn⟩
  have HC2 := Lib.hid (HC.out _ _ _ hu)
  have hn2 := Lib.hid hn
  clear HO HC hu hn y0 y1 y2 hwb
  go_wp2_with fail
  refine HC2.out.mono ?_
  rintro e w3 ⟨rfl, hn⟩
  have hn3 := Lib.hid (hn2.out.trans hn)
  clear HC2 hn hn2
  by_cases hz0 : z = 0
  · subst hz0
    have hok := Lib.hid (rep_one hz)
    have hL3 := Lib.hid (hL0.out.next hn3.out)
    clear hz hL0 hn3 hM hM2 hM3
    go_wp2_with fail
    go_loopw [6] (fun ov wr => ∃ (i : Nat) (A : Option Addr) (c : Nat), ov = .int .i64 (i : Int) ∧ i ≤ N ∧ Hid (Lp w1 w1.heap.size A c i ((⟨sa, xl.length, sc⟩ : Rw.Sl), t, q) wr)) (fun ov _ => N - (intOf ov).toNat)
    case atStart => exact ⟨0, none, 0, rfl, Nat.zero_le _, hL3⟩
    case round =>
      clear hL3
      obtain ⟨i, A, c, rfl, hi, ho⟩ := hrel
      obtain ⟨t0, t1, t2, t3, t4⟩ := ho.out.box.cells
      by_cases hlt : i < N
      · obtain ⟨y0, y1, y2⟩ := hY.out _ ho.out.new
        have uS := (Upon.refl (fun _ => False) wr).alloc (.cells #[.slice sa xl.length sc, .int .i64 t, .int .u64 (q : Int)] 43 (0, 0))
        have hMi := Lib.hid (Rw.Mine.new ho.out.row uS)
        have hXi := Lib.hid (view_smp wr ⟨sa, xl.length, sc⟩ t q)
        have hFB := Lib.hid (ho.out.box.alloc (.cells #[.slice sa xl.length sc, .int .i64 t, .int .u64 (q : Int)] 43 (0, 0)))
        have hgl : w1.heap.size < wr.heap.size := (Array.getElem?_eq_some_iff.1 ho.out.box).1
        have hw1 := ho.out.new.size
        have hown := Lib.hid ho.out.own
        have hnw := Lib.hid (ho.out.new.trans uS)
        clear ho uS
        go_wp2_with (at_builtin; refine Rw.wpList_append typS rfl _ _ rfl _ _ (List.replicate i ((⟨sa, xl.length, sc⟩ : Rw.Sl), t, q)) [((⟨sa, xl.length, sc⟩ : Rw.Sl), t, q)] Rw.All rfl rfl hMi.out hXi.out (by rw [List.length_singleton, List.length_replicate]; omega) (by rw [List.length_singleton, List.length_replicate]; omega) ?_)
        intro v7 w9 hown9 hgr hbl
        rw [← List.replicate_succ'] at hown9
        obtain ⟨A10, c10, rfl, -, -⟩ := Rw.View.shape (show Rw.Mine layS 43 w9 v7 (List.replicate (i + 1) ((⟨sa, xl.length, sc⟩ : Rw.Sl), t, q)) from hown9).view
        rw [List.length_replicate] at hown9 hbl
        have hne : ∀ b, (Value.slice A10 (i + 1) c10).ownBlock = some b → w1.heap.size ≤ b ∧ b ≠ w1.heap.size := fun b hb => by
          rcases hbl with h9 | h9
          · exact hown.out b (h9.symm.trans hb)
          · rw [hb] at h9
            injection h9 with h9
            omega
        have hF9 := hFB.out.grown hgr (by intro e; exact (hown.out _ e.symm).2 rfl)
        obtain ⟨g0, g1, g2, g3, g4⟩ := hF9.cells
        have gf := hF9.frozen 1
        have hL := Lib.hid (Lp.mk (e := ((⟨sa, xl.length, sc⟩ : Rw.Sl), t, q)) (hF9.set1 (.slice A10 (i + 1) c10)) (Rw.Mine.upon hown9 (Upon.setCell (S := fun b => b = w1.heap.size) (p := ⟨w1.heap.size, 1, none⟩) (Upon.refl _ w9) (.inl rfl) (.slice A10 (i + 1) c10)) (fun b hb e => (hne b hb).2 e)) hne
          (Upon.setCell (p := ⟨w1.heap.size, 1, none⟩) (Upon.grown hnw.out hgr (fun k hk => .inr (hown.out k hk).1)) (.inr (Nat.le_refl _)) (.slice A10 (i + 1) c10)))
        clear hMi hXi hFB hown hnw hgr hbl hown9 hne hF9 t0 t1 t2 t3 t4 y0 y1 y2
        go_wp2_with fail
        go_roundw
        case rel => exact ⟨i + 1, A10, c10, by go_num, hlt, hL⟩
        case measure => simp [intOf]; omega
      · obtain rfl : i = N := by omega
        have hRV := rep_view (k := 1) (x := (xl, t, q)) (hVX.out _ (hu1'.out.trans ho.out.new)) ho.out.row.view
        have HO := Lib.hid (own_any _ _ _ hRV (rep_bnd (by decide) hbx.out) (by simp only [rep, List.length_replicate]; omega) (by simp [rep]))
        clear hRV hY hi hlt
        have hcase : (i = 0 ∧ chk (rep 1 i (xl, t, q)) = 2 ∧ chk (rep 2 i (xl, t, q)) = 0) ∨ ((1 ≤ i ∧ i ≤ 32) ∧ chk (rep 1 i (xl, t, q)) = 0 ∧ chk (rep 2 i (xl, t, q)) = 3) ∨ (32 < i ∧ chk (rep 1 i (xl, t, q)) = 2 ∧ chk (rep 2 i (xl, t, q)) = 3) := by
          by_cases h0 : i = 0
          · subst h0; exact .inl ⟨rfl, rep_range (.inl (by omega)), rep_none⟩
          · by_cases h32 : i ≤ 32
            · exact .inr (.inl ⟨⟨by omega, h32⟩, rep_few hok.out (by omega) h32, rep_del (by omega)⟩)
            · exact .inr (.inr ⟨by omega, rep_range (.inr (by omega)), rep_del (by omega)⟩)
        rcases hcase with ⟨h0, ee1, ee2⟩ | ⟨⟨h1, h2⟩, ee1, ee2⟩ | ⟨h1, ee1, ee2⟩
        · subst h0
          have HC1 := Lib.hid (fun w S u hv => by have := check_any w S u (rep 1 0 (xl, t, q)) hv (rep_bnd (by decide) hbx.out); rw [ee1] at this; exact this)
          go_wp2_with fail
          refine HO.out.mono ?_
          rintro e w4 ⟨u, rfl, hu, hn⟩
          have HCu := Lib.hid (HC1.out _ _ _ hu)
          have hn4 := Lib.hid hn
          clear HO HC1 hu hn
          go_wp2_with fail
          refine HCu.out.mono ?_
          rintro e w5 ⟨rfl, hn⟩
          have hn5 := Lib.hid (hn4.out.trans hn)
          clear HCu hn hn4
          have hL5 := ho.out.next hn5.out
          obtain ⟨t0, t1, t2, t3, t4⟩ := hL5.box.cells
          have tf := hL5.box.frozen 0
          obtain ⟨f0, f1, f2, f3, f4⟩ := (hL5.box.set0 (.int .i64 2)).cells
          have hus : Upon (fun b => b = w1.heap.size) w5 (w5.setCell ⟨w1.heap.size, 0, none⟩ (.int .i64 2)) := Upon.setCell (S := fun b => b = w1.heap.size) (p := ⟨w1.heap.size, 0, none⟩) (Upon.refl _ w5) (.inl rfl) _
          have hN6 : New0 w1 (w5.setCell ⟨w1.heap.size, 0, none⟩ (.int .i64 2)) := Upon.setCell hL5.new (.inr (Nat.le_refl _)) _
          have hRV2 := rep_view (k := 2) (x := (xl, t, q)) (hVX.out _ (hu1'.out.trans hN6)) (Rw.View.upon hL5.row.view hus (fun b hb e => (hL5.own b hb).2 e))
          have HO2 := Lib.hid (own_any _ _ _ hRV2 (rep_bnd (by decide) hbx.out) (by simp only [rep, List.length_replicate]; omega) (by simp [rep]))
          have HC2 := Lib.hid (fun w S u hv => by have := check_any w S u (rep 2 0 (xl, t, q)) hv (rep_bnd (by decide) hbx.out); rw [ee2] at this; exact this)
          replace hN6 := Lib.hid hN6
          clear hL5 hus hRV2 hn5
          go_wp2_with fail
          refine HO2.out.mono ?_
          rintro e w6 ⟨u, rfl, hu, hn⟩
          have HCu := Lib.hid (HC2.out _ _ _ hu)
          have hn6 := Lib.hid (hN6.out.trans hn)
          clear HO2 HC2 hu hn hN6 t0 t1 t2 t3 t4 tf f0 f1 f2 f3 f4
          go_wp2_with fail
          refine HCu.out.mono ?_
          rintro e w7 ⟨rfl, hn⟩
          have hend := Lib.hid (belowOf (hu1'.out.trans (hn6.out.trans hn)))
          clear HCu hn hn6 ho
          go_wp2_with fail
          all_goals
            go_ret
            exact ⟨by first | rfl | exact Lb.ret_b (by simp), hend.out⟩
        · have d1 : ¬ (i : Int) < 1 := by omega
          have d2 : ¬ (32 : Int) < (i : Int) := by omega
          have d3 : decide ((i : Int) < 1) = false := decide_eq_false d1
          have d4 : decide ((32 : Int) < (i : Int)) = false := decide_eq_false d2
          have HC1 := Lib.hid (fun w S u hv => by have := check_any w S u (rep 1 i (xl, t, q)) hv (rep_bnd (by decide) hbx.out); rw [ee1] at this; exact this)
          go_wp2_with fail
          refine HO.out.mono ?_
          rintro e w4 ⟨u, rfl, hu, hn⟩
          have HCu := Lib.hid (HC1.out _ _ _ hu)
          have hn4 := Lib.hid hn
          clear HO HC1 hu hn
          go_wp2_with fail
          refine HCu.out.mono ?_
          rintro e w5 ⟨rfl, hn⟩
          have hn5 := Lib.hid (hn4.out.trans hn)
          clear HCu hn hn4
          have hL5 := ho.out.next hn5.out
          obtain ⟨t0, t1, t2, t3, t4⟩ := hL5.box.cells
          have tf := hL5.box.frozen 0
          obtain ⟨f0, f1, f2, f3, f4⟩ := (hL5.box.set0 (.int .i64 2)).cells
          have hus : Upon (fun b => b = w1.heap.size) w5 (w5.setCell ⟨w1.heap.size, 0, none⟩ (.int .i64 2)) := Upon.setCell (S := fun b => b = w1.heap.size) (p := ⟨w1.heap.size, 0, none⟩) (Upon.refl _ w5) (.inl rfl) _
          have hN6 : New0 w1 (w5.setCell ⟨w1.heap.size, 0, none⟩ (.int .i64 2)) := Upon.setCell hL5.new (.inr (Nat.le_refl _)) _
          have hRV2 := rep_view (k := 2) (x := (xl, t, q)) (hVX.out _ (hu1'.out.trans hN6)) (Rw.View.upon hL5.row.view hus (fun b hb e => (hL5.own b hb).2 e))
          have HO2 := Lib.hid (own_any _ _ _ hRV2 (rep_bnd (by decide) hbx.out) (by simp only [rep, List.length_replicate]; omega) (by simp [rep]))
          have HC2 := Lib.hid (fun w S u hv => by have := check_any w S u (rep 2 i (xl, t, q)) hv (rep_bnd (by decide) hbx.out); rw [ee2] at this; exact this)
          replace hN6 := Lib.hid hN6
          clear hL5 hus hRV2 hn5
          go_wp2_with fail
          refine HO2.out.mono ?_
          rintro e w6 ⟨u, rfl, hu, hn⟩
          have HCu := Lib.hid (HC2.out _ _ _ hu)
          have hn6 := Lib.hid (hN6.out.trans hn)
          clear HO2 HC2 hu hn hN6 t0 t1 t2 t3 t4 tf f0 f1 f2 f3 f4
          go_wp2_with fail
          refine HCu.out.mono ?_
          rintro e w7 ⟨rfl, hn⟩
          have hend := Lib.hid (belowOf (hu1'.out.trans (hn6.out.trans hn)))
          clear HCu hn hn6 ho
          go_wp2_with fail
          all_goals
            go_ret
            exact ⟨by first | rfl | exact Lb.ret_b (by simp), hend.out⟩
        · have d1 : ¬ (i : Int) < 1 := by omega
          have d2 : (32 : Int) < (i : Int) := by omega
          have d3 : decide ((i : Int) < 1) = false := decide_eq_false d1
          have d4 : decide ((32 : Int) < (i : Int)) = true := decide_eq_true d2
          have HC1 := Lib.hid (fun w S u hv => by have := check_any w S u (rep 1 i (xl, t, q)) hv (rep_bnd (by decide) hbx.out); rw [ee1] at this; exact this)
          go_wp2_with fail
          refine HO.out.mono ?_
          rintro e w4 ⟨u, rfl, hu, hn⟩
          have HCu := Lib.hid (HC1.out _ _ _ hu)
          have hn4 := Lib.hid hn
          clear HO HC1 hu hn
          go_wp2_with fail
          refine HCu.out.mono ?_
          rintro e w5 ⟨rfl, hn⟩
          have hn5 := Lib.hid (hn4.out.trans hn)
          clear HCu hn hn4
          have hL5 := ho.out.next hn5.out
          obtain ⟨t0, t1, t2, t3, t4⟩ := hL5.box.cells
          have tf := hL5.box.frozen 0
          obtain ⟨f0, f1, f2, f3, f4⟩ := (hL5.box.set0 (.int .i64 2)).cells
          have hus : Upon (fun b => b = w1.heap.size) w5 (w5.setCell ⟨w1.heap.size, 0, none⟩ (.int .i64 2)) := Upon.setCell (S := fun b => b = w1.heap.size) (p := ⟨w1.heap.size, 0, none⟩) (Upon.refl _ w5) (.inl rfl) _
          have hN6 : New0 w1 (w5.setCell ⟨w1.heap.size, 0, none⟩ (.int .i64 2)) := Upon.setCell hL5.new (.inr (Nat.le_refl _)) _
          have hRV2 := rep_view (k := 2) (x := (xl, t, q)) (hVX.out _ (hu1'.out.trans hN6)) (Rw.View.upon hL5.row.view hus (fun b hb e => (hL5.own b hb).2 e))
          have HO2 := Lib.hid (own_any _ _ _ hRV2 (rep_bnd (by decide) hbx.out) (by simp only [rep, List.length_replicate]; omega) (by simp [rep]))
          have HC2 := Lib.hid (fun w S u hv => by have := check_any w S u (rep 2 i (xl, t, q)) hv (rep_bnd (by decide) hbx.out); rw [ee2] at this; exact this)
          replace hN6 := Lib.hid hN6
          clear hL5 hus hRV2 hn5
          go_wp2_with fail
          refine HO2.out.mono ?_
          rintro e w6 ⟨u, rfl, hu, hn⟩
          have HCu := Lib.hid (HC2.out _ _ _ hu)
          have hn6 := Lib.hid (hN6.out.trans hn)
          clear HO2 HC2 hu hn hN6 t0 t1 t2 t3 t4 tf f0 f1 f2 f3 f4
          go_wp2_with fail
          refine HCu.out.mono ?_
          rintro e w7 ⟨rfl, hn⟩
          have hend := Lib.hid (belowOf (hu1'.out.trans (hn6.out.trans hn)))
          clear HCu hn hn6 ho
          go_wp2_with fail
          all_goals
            go_ret
            exact ⟨by first | rfl | exact Lb.ret_b (by simp), hend.out⟩
  · have dz : ((z : Int) != 0) = true := by rw [bne_iff_ne]; omega
    have hend := Lib.hid (belowOf (hu1'.out.trans (hL0.out.new.trans hn3.out)))
    clear hz hz0 hL0 hn3 hbx hVX hY
    go_wp2_with fail
    go_ret
    exact ⟨rfl, hend.out⟩
end Rc
end Go.Proofs.Ytkachkoiajdhgaa
