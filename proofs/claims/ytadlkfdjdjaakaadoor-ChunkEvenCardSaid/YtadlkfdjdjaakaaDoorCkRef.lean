/- The document's own Encode (layer 9). -/
import Derived.Test.YtadlkfdjdjaakaaDoorCkView
import Derived.Test.YtadlkfdjdjaakaaDoorObj3
import Derived.Lib.QuietBelow
set_option maxRecDepth 100000
namespace Go.Proofs.YtadlkfdjdjaakaaDoor
open Go.RowKit Go.Sort
namespace Ck
open Bit Dsk Ob Dig
set_option linter.unusedVariables false

theorem lcomm {A B C : Ob.Rel} {w : World} {S : Nat → Prop} (h : Tens A (Tens B C) w S) : Tens B (Tens A C) w S := Tens.assoc (Tens.mapL (fun _ k => Tens.swap k) (Tens.cossa h))
/-- The document's two coders and its writer. -/
abbrev RE (qt qv p : Nat) (c : C2) (L : List Bool) : Ob.Rel := Tens (Xr.IsRC qv c.2) (Tm.CW qt c.1 p L)
theorem thingRE (qt qv p : Nat) (c : C2) (L : List Bool) : Thing (RE qt qv p c L) := Tens.ob (Xr.objRC _ _) (Tm.thingCW _ _ _ _)
theorem rePutT {w0 w : World} {qt qv p : Nat} {c c' : C2} {L L' : List Bool} {t : Int} (H : Own (RE qt qv p c L) w0 w) (hL : L.length ≤ 80000000000000) (e : (Tm.putC c.1 t, c.2) = c') (e2 : L ++ Tm.putB c.1 t = L') :
    Calls Tryd.prog 22 #[.pointer (some ⟨qt, 0, none⟩), .pointer (some ⟨p, 0, none⟩), .int .i64 t] w fun e w' => e = .returned (.tuple #[]) ∧ Own (RE qt qv p c' L') w0 w' := by
  subst e; subst e2
  exact ownR (Q := fun e => e = .returned (.tuple #[])) (Xr.objRC qv c.2) H fun A hA h => Tm.refPut_any A qt p c.1 L t w h hL
theorem rePutV {w0 w : World} {qt qv p : Nat} {c c' : C2} {L L' : List Bool} {v : Nat} (H : Own (RE qt qv p c L) w0 w) (hok : c.2.Ok) (hL : L.length ≤ 80000000000000) (hv : v < 18446744073709551616) (e : (c.1, Xr.putC c.2 v) = c') (e2 : L ++ Xr.putB c.2 v = L') :
    Calls Tryd.prog 23 #[.pointer (some ⟨qv, 0, none⟩), .pointer (some ⟨p, 0, none⟩), .int .u64 (v : Int)] w fun e w' => e = .returned (.tuple #[]) ∧ Own (RE qt qv p c' L') w0 w' := by
  subst e; subst e2
  refine (ownR (I := Tm.IsRC qt c.1) (J := Xr.CW qv c.2 p L) (J' := Xr.CW qv (Xr.putC c.2 v) p (L ++ Xr.putB c.2 v)) (Q := fun e => e = .returned (.tuple #[])) (Tm.objRC qt c.1) (H.mono fun _ h => lcomm h) fun A hA h => Xr.refPut_any A qv p c.2 L v w h hok hL hv).mono ?_
  rintro e w' ⟨he, h⟩
  exact ⟨he, h.mono fun _ h => lcomm h⟩
theorem new0_of_bel {w w' : World} (h : Below w.heap.size w w') : New0 w w' := Upon.of_below h _
/-- They are made. -/
theorem reMade (w : World) : Own (RE (w.heap.size + 1) (w.heap.size + 2) w.heap.size c0 []) w
    (((w.alloc (.cells #[.slice none 0 0] 54 (0, 0))).alloc (.cells #[.bool false, .int .i64 0, .int .i64 0] 57 (0, 0))).alloc (.cells #[.bool false, .int .u64 0, .bool false, .int .i64 0, .int .i64 0] 60 (0, 0))) := by
  have h1 : Own (fun w' S => IsRW w' S w.heap.size []) w (w.alloc (.cells #[.slice none 0 0] 54 (0, 0))) :=
    Own.made (Below.refl _ w) (newRW w) (fun b hb => by rw [hb]; exact Nat.le_refl _) ((Upon.refl _ w).alloc _)
  generalize hw1 : w.alloc (.cells #[.slice none 0 0] 54 (0, 0)) = w1 at *
  have e1 : w1.heap.size = w.heap.size + 1 := by rw [← hw1]; simp
  have h2 : Own (Tens (fun w' S => IsRW w' S w.heap.size []) (Tm.IsRC (w.heap.size + 1) Tm.newC)) w (w1.alloc (.cells #[.bool false, .int .i64 0, .int .i64 0] 57 (0, 0))) := by
    rw [← e1]
    exact Own.new (objRW _ _) h1 (T := fun x => x = w1.heap.size) ⟨cell_new w1 _, fun x => Iff.rfl⟩ (fun b hb => by rw [hb]; exact Nat.le_refl _) ((Upon.refl _ w1).alloc _)
  generalize hw2 : w1.alloc (.cells #[.bool false, .int .i64 0, .int .i64 0] 57 (0, 0)) = w2 at *
  have e2 : w2.heap.size = w.heap.size + 2 := by rw [← hw2]; simp [e1]
  have h3 : Own (Tens (Tm.CW (w.heap.size + 1) Tm.newC w.heap.size []) (Xr.IsRC (w.heap.size + 2) Xr.newC)) w (w2.alloc (.cells #[.bool false, .int .u64 0, .bool false, .int .i64 0, .int .i64 0] 60 (0, 0))) := by
    rw [← e2]
    exact Own.new (Tm.thingCW _ _ _ _) h2.swap (T := fun x => x = w2.heap.size) ⟨cell_new w2 _, fun x => Iff.rfl⟩ (fun b hb => by rw [hb]; exact Nat.le_refl _) ((Upon.refl _ w2).alloc _)
  exact h3.swap
/-- What Encode answers. -/
def encR (l : List Pt) : Ending := .returned (.tuple #[.string ⟨(enc l).1.toArray⟩, .int .i64 ((enc l).2 : Int)])
theorem encR_range {l : List Pt} (h : l.length < 1 ∨ 64 < l.length) : Ending.returned (.tuple #[.string ⟨#[]⟩, .int .i64 2]) = encR l := by unfold encR; rw [enc_range h]; rfl
theorem encR_order {l : List Pt} (h : 1 ≤ l.length) (h64 : l.length ≤ 64) (hr : ¬ Rises l l.length) : Ending.returned (.tuple #[.string ⟨#[]⟩, .int .i64 9]) = encR l := by unfold encR; rw [enc_order h h64 hr]; rfl
theorem encR_ok {l : List Pt} (h : 1 ≤ l.length) (h64 : l.length ≤ 64) (hr : Rises l l.length) {s : ByteArray} (hs : s = ⟨(code l).toArray⟩) : Ending.returned (.tuple #[.string s, .int .i64 0]) = encR l := by unfold encR; rw [enc_ok h h64 hr, hs]; rfl
theorem cat3 (l : List Pt) : (⟨(numL l.length).toArray⟩ : ByteArray) ++ ⟨(numL (ptsB c0 l).length).toArray⟩ ++ ⟨(pack (ptsB c0 l)).toArray⟩ = ⟨(code l).toArray⟩ := by
  apply ByteArray.ext
  apply Array.toList_inj.1
  simp [code]
theorem lenB {l : List Pt} (h64 : l.length ≤ 64) (j : Nat) : (ptsB c0 (l.take j)).length ≤ 10000 := by
  have := ptsB_len (l.take j) c0
  have h : (l.take j).length ≤ l.length := by rw [List.length_take]; omega
  omega
theorem ptB_at {l : List Pt} {j : Nat} (h : j < l.length) : ptsB c0 (l.take j) ++ Tm.putB (stps c0 (l.take j)).1 l[j].1 ++ Xr.putB (stps c0 (l.take j)).2 l[j].2 = ptsB c0 (l.take (j + 1)) ∧ (Tm.putC (stps c0 (l.take j)).1 l[j].1, Xr.putC (stps c0 (l.take j)).2 l[j].2) = stps c0 (l.take (j + 1)) := by
  rw [(ptsB_take h c0).1, (ptsB_take h c0).2, List.append_assoc]
  exact ⟨rfl, rfl⟩
theorem ok_at {l : List Pt} (hin : ∀ p ∈ l, PtIn p) (j : Nat) : Ok2 (stps c0 (l.take j)) := stps_ok _ ok0 fun p hp => hin p (List.mem_of_mem_take hp)
/-- The two puts of a point. -/
theorem rePuts {w0 wr : World} {qt qv p : Nat} {l : List Pt} (hin : ∀ p ∈ l, PtIn p) (h64 : l.length ≤ 64) {j : Nat} (hj : j < l.length) (x : Int) (y : Nat) (hx : l[j].1 = x) (hy : l[j].2 = y) (H : Own (RE qt qv p (stps c0 (l.take j)) (ptsB c0 (l.take j))) w0 wr) :
    Calls Tryd.prog 22 #[.pointer (some ⟨qt, 0, none⟩), .pointer (some ⟨p, 0, none⟩), .int .i64 x] wr fun e w' => e = .returned (.tuple #[]) ∧ Below w0.heap.size w0 w' ∧
      Calls Tryd.prog 23 #[.pointer (some ⟨qv, 0, none⟩), .pointer (some ⟨p, 0, none⟩), .int .u64 (y : Int)] w' fun e w2 => e = .returned (.tuple #[]) ∧ Own (RE qt qv p (stps c0 (l.take (j + 1))) (ptsB c0 (l.take (j + 1)))) w0 w2 := by
  subst hx; subst hy
  obtain ⟨e1, e2⟩ := ptB_at hj
  have hb := lenB h64 j
  have hok := ok_at hin j
  have ht := Tm.putB_len (c := (stps c0 (l.take j)).1) l[j].1
  refine (rePutT H (by omega) rfl rfl).mono ?_
  rintro e w' ⟨he, h⟩
  exact ⟨he, h.bel, rePutV h hok.v (by rw [List.length_append]; omega) (hin _ (List.getElem_mem hj)).2 e2 e1⟩
set_option maxHeartbeats 6400000 in
theorem refenc_any (w : World) (S : Nat → Prop) (v : Value) (l : List Pt) (hv : View w S v l) (hin : ∀ p ∈ l, PtIn p) :
    Calls Tryd.prog 8 #[v] w fun e w' => e = encR l ∧ New0 w w' := by
  by_cases h1 : 1 ≤ l.length
  · by_cases h64 : l.length ≤ 64
    · have hM := Lib.hid (reMade w)
      have d1 : decide ((l.length : Int) < 1) = false := decide_eq_false (by omega)
      have d2 : decide ((64 : Int) < (l.length : Int)) = false := decide_eq_false (by omega)
      replace hin := Lib.hid hin
      obtain ⟨A, c, rfl, hc1, hc2, hA⟩ := hv
      obtain ⟨b, off, rfl, -, hcells⟩ := hA h1
      replace hcells := Lib.hid hcells
      clear hA hc1 hc2
      go_enter Tryd.func8, Tryd.ntmps8
      go_wp2_with fail
      go_loopw [7] (fun ov wr => ∃ j : Nat, ov = .int .i64 (j : Int) ∧ j ≤ l.length ∧ Hid (Rises l j) ∧ Hid (Own (RE (w.heap.size + 1) (w.heap.size + 2) w.heap.size (stps c0 (l.take j)) (ptsB c0 (l.take j))) w wr)) (fun ov _ => l.length - (intOf ov).toNat)
      case atStart => exact ⟨0, rfl, Nat.zero_le _, Lib.hid (Rises.zero l), hM⟩
      case round =>
        obtain ⟨j, rfl, hj, hri, hst⟩ := hrel
        clear hM d1 d2
        by_cases hlt : j < l.length
        · obtain ⟨c0', c1'⟩ := hcells.out j hlt
          obtain ⟨x, hx⟩ : ∃ x, l[j].1 = x := ⟨_, rfl⟩
          obtain ⟨y, hy⟩ : ∃ y, l[j].2 = y := ⟨_, rfl⟩
          rw [hx] at c0'
          rw [hy] at c1'
          have hT : Hid (T l j = x) := Lib.hid ((T_get hlt).trans hx)
          have HP := Lib.hid (fun n => rePuts hin.out h64 hlt x y hx hy (Own.upon0 (thingRE _ _ _ _ _) hst.out (upon_drewN _ wr n)))
          have hsee := Lib.hid (fun (a : Addr) (u : Value) (h : w.cell? a = some u) (w' : World) (hb : Below w.heap.size w w') => (hb.cell (World.block_lt_of_cell? w _ h)).trans h)
          replace hx := Lib.hid hx
          replace hy := Lib.hid hy
          by_cases hj0 : j = 0
          · have hn : Hid (Rises l (j + 1)) := Lib.hid (by rw [hj0]; exact Rises.one l)
            have dg : decide (0 < j) = false := decide_eq_false (by omega)
            have r0 := hsee.out _ _ c0' _ hst.out.bel
            replace hj0 := Lib.hid hj0
            clear hri hst hcells
            go_wp2_with fail
            go_quiet (fail)
            go_wp2_with fail
            refine (HP.out _).mono ?_
            rintro e w2 ⟨rfl, hb2, HV⟩
            have r1 := hsee.out _ _ c1' _ hb2
            replace HV := Lib.hid HV
            clear HP r0 dg
            go_wp2_with fail
            refine HV.out.mono ?_
            rintro e w3 ⟨rfl, h3⟩
            replace h3 := Lib.hid h3
            clear HV r1 c0' c1'
            go_wp2_with fail
            go_roundw
            case rel => exact ⟨j + 1, by go_num, hlt, hn, h3⟩
            case measure => simp [intOf]; omega
          · obtain ⟨k, rfl⟩ : ∃ k, j = k + 1 := ⟨j - 1, by omega⟩
            have hk : k < l.length := by omega
            obtain ⟨b0', -⟩ := hcells.out k hk
            obtain ⟨z, hz⟩ : ∃ z, l[k].1 = z := ⟨_, rfl⟩
            rw [hz] at b0'
            have hT0 : Hid (T l k = z) := Lib.hid ((T_get hk).trans hz)
            replace hz := Lib.hid hz
            have dg : decide ((0 : Int) < ((k + 1 : Nat) : Int)) = true := decide_eq_true (by omega)
            have r0 := hsee.out _ _ c0' _ hst.out.bel
            have r2 := hsee.out _ _ b0' _ hst.out.bel
            have hends := Lib.hid hst.out.bel
            by_cases hle : x ≤ z
            · have hnr := Lib.hid (encR_order h1 h64 (Rises.not hlt (by rw [hT.out, hT0.out]; omega)))
              have dx : decide (x ≤ z) = true := decide_eq_true hle
              clear hri hst hcells HP hle
              go_wp2_with fail
              go_quiet (fail)
              go_wp2_with fail
              go_ret2
              exact ⟨hnr.out, (new0_of_bel hends.out).trans (upon_drewN _ _ _)⟩
            · have hn : Hid (Rises l (k + 1 + 1)) := Lib.hid (hri.out.next (by rw [hT.out, hT0.out]; omega))
              have dx : decide (x ≤ z) = false := decide_eq_false hle
              clear hri hst hcells hle hends
              go_wp2_with fail
              go_quiet (fail)
              go_wp2_with fail
              refine (HP.out _).mono ?_
              rintro e w2 ⟨rfl, hb2, HV⟩
              have r1 := hsee.out _ _ c1' _ hb2
              replace HV := Lib.hid HV
              clear HP r0 r2 dg dx
              go_wp2_with fail
              refine HV.out.mono ?_
              rintro e w3 ⟨rfl, h3⟩
              replace h3 := Lib.hid h3
              clear HV r1 c0' c1' b0'
              go_wp2_with fail
              go_roundw
              case rel => exact ⟨k + 1 + 1, by go_num, hlt, hn, h3⟩
              case measure => simp [intOf]; omega
        · obtain rfl : j = l.length := by omega
          have hrise := hri.out
          rw [List.take_length] at hst
          have hR := Lib.hid (fun s => encR_ok h1 h64 hrise (s := s))
          have hb := bits_few h64
          obtain ⟨T1, hW, hgo⟩ := hst.out.get
          clear hgo
          have hbel := Lib.hid hst.out.bel
          obtain ⟨_, B, _, ⟨_, D, _, hw, _⟩, _⟩ := hW
          obtain ⟨rv, hrv⟩ := hw
          have k0 : wr.cell? ⟨w.heap.size, 0, none⟩ = some rv := by rw [Lib.cell_of_heap hrv.cell]; rfl
          obtain ⟨A2, c2, rfl⟩ : ∃ A c, rv = .slice A (ptsB c0 l).length c := by
            rcases hrv.row.2 with ⟨hv, h0⟩ | ⟨g, cap, cur, hv, _⟩
            · exact ⟨none, 0, by rw [hv, h0]⟩
            · exact ⟨_, _, hv⟩
          have k0' := fun d os => cell_regrown k0 d os
          obtain ⟨f, hf⟩ : ∃ f : Nat → ByteArray, ∀ n, (⟨(numL n).toArray⟩ : ByteArray) = f n := ⟨_, fun _ => rfl⟩
          have t1 : Hid (∀ d os (n : Nat), n ≤ 10000 → Calls Tryd.prog 24 #[.int .u64 (n : Int)] (grow (redrawn wr d) os) fun e w' => e = .returned (.string (f n)) ∧ Below (grow (redrawn wr d) os).heap.size (grow (redrawn wr d) os) w') :=
            Lib.hid fun d os n hn => hf n ▸ refnum_calls n (by omega) (grow (redrawn wr d) os)
          have hcat := cat3 l
          have hfs : ∀ n, (f n).size ≤ 9 := fun n => by
            rw [← hf]; show (numL n).toArray.size ≤ 9; rw [List.size_toArray, numL_length]; have := nd_le n; omega
          have hs3 : (⟨(pack (ptsB c0 l)).toArray⟩ : ByteArray).size ≤ 2000 := by
            show (pack (ptsB c0 l)).toArray.size ≤ 2000; rw [List.size_toArray, pack_length]; unfold nb; omega
          rw [hf, hf] at hcat
          replace hcat := Lib.hid hcat
          have t3 := Lib.hid (fun d os => Bit.reftext_any D w.heap.size (ptsB c0 l) (grow (redrawn wr d) os) ((objRW w.heap.size (ptsB c0 l)).kept wr _ D ⟨_, hrv⟩ (fun b hb => (below_regrown wr d os).block b (hrv.lt b hb)) (below_regrown wr d os).size) (by omega))
          have i1 : IntKind.u64.wrap (l.length : Int) = (l.length : Int) := by rw [IntKind.wrap_u64]; omega
          have i2 : IntKind.u64.wrap ((ptsB c0 l).length : Int) = ((ptsB c0 l).length : Int) := by rw [IntKind.wrap_u64]; omega
          clear hrv k0 hst hri hrise hcells hf
          generalize (⟨(pack (ptsB c0 l)).toArray⟩ : ByteArray) = s3 at *
          generalize (ptsB c0 l).length = m at *
          have hadd1 := fun (W : World) => run_string_add_sum (P := Tryd.prog) W (f l.length) (f m) (by have := hfs l.length; have := hfs m; omega)
          have hadd2 := fun (W : World) => run_string_add_sum (P := Tryd.prog) W (f l.length ++ f m) s3 (by rw [ByteArray.size_append]; have := hfs l.length; have := hfs m; omega)
          clear hfs hs3
          go_wp2_with fail
          refine wp_region_quiet_below (by kernel_rfl) (by kernel_rfl) ?_
          repeat (go_big_quiet_step (first
            | exact Calls.regrown_of (t3.out _ _)
            | exact Calls.regrown_of (t1.out _ _ _ (by omega))))
          refine wpQuiet_nil ?_
          intro _ hw'
          obtain ⟨⟨dq, osq⟩, hw''⟩ := hw'
          subst hw''
          go_wp2_with fail
          go_ret2
          exact ⟨hR.out _ hcat.out, (new0_of_bel hbel.out).trans (new0_of_bel (below_regrown wr dq osq))⟩
    · have d1 : decide ((l.length : Int) < 1) = false := decide_eq_false (by omega)
      have d2 : decide ((64 : Int) < (l.length : Int)) = true := decide_eq_true (by omega)
      obtain ⟨A, c, rfl, -, -, -⟩ := hv
      have he := Lib.hid (encR_range (l := l) (.inr (by omega)))
      go_enter Tryd.func8, Tryd.ntmps8
      go_wp2_with fail
      go_ret2
      exact ⟨he.out, Upon.refl _ _⟩
  · have d1 : decide ((l.length : Int) < 1) = true := decide_eq_true (by omega)
    obtain ⟨A, c, rfl, -, -, -⟩ := hv
    have he := Lib.hid (encR_range (l := l) (.inl (by omega)))
    go_enter Tryd.func8, Tryd.ntmps8
    go_wp2_with fail
    go_ret2
    exact ⟨he.out, Upon.refl _ _⟩
end Ck
end Go.Proofs.YtadlkfdjdjaakaaDoor
