/- The program's windows of patterns (layer 7): windowOf, holds, size, what is written and read between lead and tail. -/
import Derived.Test.YtiimdinefkbhlaaDoorXorW
import Derived.Test.YtiimdinefkbhlaaDoorXorRef2
import Derived.Test.YtiimdinefkbhlaaDoorBitK
import Derived.Lib.QuietBelow
namespace Go.Proofs.YtiimdinefkbhlaaDoor
open Go.RowKit Go.Sort
namespace Xr
open Bit Dsk Ob
set_option linter.unusedVariables false

/-- A window. -/
abbrev win (l t : Nat) : Value := .agg #[.int .i64 (l : Int), .int .i64 (t : Int)]
abbrev New0 (w w' : World) : Prop := Upon (fun _ => False) w w'
theorem New0.cell {w w' : World} (h : New0 w w') {b o : Nat} {v : Value} (hc : w.cell? ⟨b, o, none⟩ = some v) : w'.cell? ⟨b, o, none⟩ = some v :=
  ((h.below (Nat.le_refl _) fun _ f => f.elim).cell (p := ⟨b, o, none⟩) (World.block_lt_of_cell? w _ hc)).trans hc
theorem Tab.upon {S : Nat → Prop} {w w' : World} (h : Tab w) (hu : Upon S w w') (hS : ¬ S 0) : Tab w' := fun j hj => by
  have hc := h j hj
  have hb := World.block_lt_of_cell? w _ hc
  rw [← hc, World.cell?, World.cell?, hu.block _ hb hS]
set_option maxHeartbeats 1600000 in
theorem windowOf_any (d : Nat) (hd : d < 18446744073709551616) (h0 : d ≠ 0) (w : World) (hT : Tab w) : Calls Tryd.prog 28 #[.int .u64 (d : Int)] w fun e w' => e = .returned (win (lead d) (tail d)) ∧ New0 w w' := by
  have h1 := Lib.hid (fun w => lead64_any d hd w)
  have hu : New0 w (w.alloc (.cells #[.int .i64 0, .int .i64 0] 52 (0, 0))) := (Upon.refl _ w).alloc _
  have h2 := Lib.hid (tail64_any d hd h0 (w.alloc (.cells #[.int .i64 0, .int .i64 0] 52 (0, 0))) (hT.upon hu fun f => f))
  have hl := lead_len hd
  have hm : min ((64 - Lib.bitLen d : Nat) : Int) 31 = (lead d : Int) := by omega
  have hend : Hid (New0 w (w.alloc (.cells #[.int .i64 (lead d : Int), .int .i64 (tail d : Int)] 52 (0, 0)))) := Lib.hid ((Upon.refl _ w).alloc _)
  clear hT hl hu
  go_enter Tryd.func28, Tryd.ntmps28
  go_wp2_with fail
  refine (h1.out _).mono ?_
  rintro e w' ⟨rfl, rfl⟩
  go_wp2_with fail
  refine h2.out.mono ?_
  rintro e w' ⟨rfl, rfl⟩
  clear h1 h2
  go_wp2_with fail
  refine bodyPost_ret (v := win (lead d) (tail d)) (by simp [results, Tryd.results28, go_sem]) rfl ⟨rfl, hend.out⟩
set_option maxHeartbeats 1600000 in
theorem size_any (l t : Nat) (h : l + t ≤ 64) (w : World) : Calls Tryd.prog 30 #[win l t] w fun e w' => e = .returned (.int .i64 ((64 - l - t : Nat) : Int)) ∧ New0 w w' := by
  have hend : Hid (New0 w (w.alloc (.cells #[.int .i64 (l : Int), .int .i64 (t : Int)] 52 (0, 0)))) := Lib.hid ((Upon.refl _ w).alloc _)
  go_enter Tryd.func30, Tryd.ntmps30
  go_wp2_with fail
  go_ret
  exact ⟨ret_int (by omega), hend.out⟩
set_option maxHeartbeats 1600000 in
theorem holds_any (l t a b : Nat) (w : World) : Calls Tryd.prog 29 #[win l t, win a b] w fun e w' => e = .returned (.bool (decide (l ≤ a) && decide (t ≤ b))) ∧ New0 w w' := by
  have hend : Hid (New0 w ((w.alloc (.cells #[.int .i64 (l : Int), .int .i64 (t : Int)] 52 (0, 0))).alloc (.cells #[.int .i64 (a : Int), .int .i64 (b : Int)] 52 (0, 0)))) := Lib.hid (((Upon.refl _ w).alloc _).alloc _)
  by_cases h : l ≤ a
  · have hd : decide (l ≤ a) = true := decide_eq_true h
    go_enter Tryd.func29, Tryd.ntmps29
    go_wp2_with fail
    go_ret
    exact ⟨by simp [h], hend.out⟩
  · have hd : decide (l ≤ a) = false := decide_eq_false h
    go_enter Tryd.func29, Tryd.ntmps29
    go_wp2_with fail
    go_ret
    exact ⟨by simp [h], hend.out⟩

/-! ### between lead and tail -/
theorem stepNew {I : Ob.Rel} (hI : Thing I) {S : Nat → Prop} {w0 w w' : World} (H : ObjStep I S w0 w) (h : New0 w w') : ObjStep I S w0 w' := H.upon0 hI h
set_option maxHeartbeats 3200000 in
theorem putBetween_any (S : Nat → Prop) (p l t d : Nat) (L : List Bool) (w : World) (h : IsW w S p L) (hlt : l + t ≤ 64) (hd : d < 18446744073709551616) (hL : L.length ≤ 90000000000000) :
    Calls Tryd.prog 31 #[win l t, .pointer (some ⟨p, 0, none⟩), .int .u64 (d : Int)] w fun e w' => e = .returned (.tuple #[]) ∧ WStep S p (L ++ bitsOf (d / 2 ^ t) (64 - l - t)) w w' := by
  have H := ObjStep.refl (I := fun w S => IsW w S p L) h
  have hbox : New0 w (w.alloc (.cells #[.int .i64 (l : Int), .int .i64 (t : Int)] 52 (0, 0))) := (Upon.refl _ w).alloc _
  have c0 : (w.alloc (.cells #[.int .i64 (l : Int), .int .i64 (t : Int)] 52 (0, 0))).cell? ⟨w.heap.size, 0, none⟩ = some (.int .i64 (l : Int)) := by rw [Lib.cell_of_heap (cell_new w _)]; rfl
  have c1 : (w.alloc (.cells #[.int .i64 (l : Int), .int .i64 (t : Int)] 52 (0, 0))).cell? ⟨w.heap.size, 1, none⟩ = some (.int .i64 (t : Int)) := by rw [Lib.cell_of_heap (cell_new w _)]; rfl
  have H1 := Lib.hid (stepNew (objW _ _) H hbox)
  have hc1 := Lib.hid (fun w' (hu : New0 (w.alloc (.cells #[.int .i64 (l : Int), .int .i64 (t : Int)] 52 (0, 0))) w') => New0.cell hu c1)
  have hsz := Lib.hid (fun w => size_any l t hlt w)
  have hput := Lib.hid (fun w' (hu : New0 (w.alloc (.cells #[.int .i64 (l : Int), .int .i64 (t : Int)] 52 (0, 0))) w') =>
    callW (I' := fun w S => IsW w S p (L ++ bitsOf (d / 2 ^ t) (64 - l - t))) (Q := fun e => e = .returned (.tuple #[])) (f := 27) (args := #[.pointer (some ⟨p, 0, none⟩), .int .u64 ((d : Int) / 2 ^ t), .int .i64 ((64 - l - t : Nat) : Int)]) (stepNew (objW _ _) H1.out hu) fun A hA => by
      have := put_any A p L (d / 2 ^ t) ((64 - l - t : Nat) : Int) w' hA hL (Nat.lt_of_le_of_lt (Nat.div_le_self _ _) hd)
      rw [cnt_nat (by omega)] at this
      rw [int_div_pow]
      exact this)
  have hdr : ∀ w : World, New0 w w.drew := fun w => upon_drewN _ w 1
  clear H h hbox H1 hd hL
  go_enter Tryd.func31, Tryd.ntmps31
  go_wp2_with fail
  generalize w.alloc (.cells #[.int .i64 (l : Int), .int .i64 (t : Int)] 52 (0, 0)) = wb at *
  go_region_with (first
    | (go_at_call 30; refine (hsz.out _).mono ?_; rintro e w2 ⟨rfl, hu2⟩; have c1' := hc1.out w2 ((hdr _).trans hu2))
    | (go_at_call 27; refine (hput.out _ ?_).mono ?_; exact (hdr _).trans hu2; rintro e w3 ⟨rfl, h3⟩))
  all_goals
    go_wp2_with fail
    go_end0
    exact ⟨rfl, h3⟩

theorem preNew {I : Ob.Rel} {S : Nat → Prop} {w0 w w' : World} (h : New0 w0 w) (H : ObjStep I S w w') : ObjStep I S w0 w' := by
  obtain ⟨⟨S', h1, h2, h3⟩, hu⟩ := H
  exact ⟨⟨S', h1, h2, fun b hb => (h3 b hb).imp id fun hb2 => Nat.le_trans h.size hb2⟩, (h.mono (T := S) fun _ _ f => f.elim).trans hu⟩
/-- A cell beside an object stays. -/
theorem cellBeside {I : Ob.Rel} {S : Nat → Prop} {w w' : World} (H : ObjStep I S w w') {b o : Nat} {v : Value} (hb : ¬ S b) (hc : w.cell? ⟨b, o, none⟩ = some v) : w'.cell? ⟨b, o, none⟩ = some v := by
  have hl := World.block_lt_of_cell? w _ hc
  rw [← hc, World.cell?, World.cell?, H.upon.block _ hl hb]
theorem ret_ub {a b : Int} {x y : Bool} (h : a = b) (k : x = y) : Ending.returned (.tuple #[.int .u64 a, .bool x]) = .returned (.tuple #[.int .u64 b, .bool y]) := by rw [h, k]
theorem shl_u (d k : Nat) : IntKind.u64.wrap ((d : Int) * 2 ^ k) = ((d * 2 ^ k % 2 ^ 64 : Nat) : Int) := by
  rw [IntKind.wrap_u64, Int.natCast_emod, Int.natCast_mul, Int.natCast_pow]
  rfl
set_option maxHeartbeats 3200000 in
theorem getBetween_ok (S : Nat → Prop) (p l t n : Nat) (K : List Bool) (w : World) (h : IsRK w S p K) (hlt : l + t ≤ 64) (hn : n = 64 - l - t) (hle : n ≤ K.length) :
    Calls Tryd.prog 33 #[win l t, .pointer (some ⟨p, 0, none⟩)] w fun e w' => e = .returned (.tuple #[.int .u64 ((numOf (K.take n) * 2 ^ t % 2 ^ 64 : Nat) : Int), .bool (decide (numOf (K.take n) ≠ 0))]) ∧ ObjStep (fun w S => IsRK w S p (K.drop n)) S w w' := by
  have hbox : New0 w (w.alloc (.cells #[.int .i64 (l : Int), .int .i64 (t : Int)] 52 (0, 0))) := (Upon.refl _ w).alloc _
  have c0 : (w.alloc (.cells #[.int .i64 (l : Int), .int .i64 (t : Int)] 52 (0, 0))).cell? ⟨w.heap.size, 0, none⟩ = some (.int .i64 (l : Int)) := by rw [Lib.cell_of_heap (cell_new w _)]; rfl
  have c1 : (w.alloc (.cells #[.int .i64 (l : Int), .int .i64 (t : Int)] 52 (0, 0))).cell? ⟨w.heap.size, 1, none⟩ = some (.int .i64 (t : Int)) := by rw [Lib.cell_of_heap (cell_new w _)]; rfl
  have hnS : ¬ S w.heap.size := fun hs => by have := (objRK p K).lt w S h _ hs; omega
  have hb : IsRK (w.alloc (.cells #[.int .i64 (l : Int), .int .i64 (t : Int)] 52 (0, 0))) S p K := (objRK p K).kept _ _ S h (fun b hb => hbox.block b ((objRK p K).lt w S h b hb) fun f => f) hbox.size
  have hsz := Lib.hid (fun w => size_any l t hlt w)
  rw [← hn] at hsz
  have hn64 : n ≤ 64 := by omega
  clear hn h
  obtain ⟨x, hx⟩ : ∃ x, x = numOf (K.take n) := ⟨_, rfl⟩
  have hsh := shl_u x t
  have hg : Hid (∀ w2, New0 (w.alloc (.cells #[.int .i64 (l : Int), .int .i64 (t : Int)] 52 (0, 0))) w2 → Calls Tryd.prog 32 #[.pointer (some ⟨p, 0, none⟩), .int .i64 (n : Int)] w2 fun e w' => e = .returned (.tuple #[.int .u64 (x : Int), .bool true]) ∧ ObjStep (fun w S => IsRK w S p (K.drop n)) S w w' ∧ w'.cell? ⟨w.heap.size, 1, none⟩ = some (.int .i64 (t : Int))) := Lib.hid fun w2 hu => by
    have hb2 : IsRK w2 S p K := (objRK p K).kept _ _ S hb (fun b hb3 => hu.block b ((objRK p K).lt _ S hb b hb3) fun f => f) hu.size
    rw [hx]
    exact (rkGet_ok S p K n w2 hb2 hn64 hle).mono fun e w' ⟨he, hs⟩ => ⟨he, preNew (hbox.trans hu) hs, cellBeside hs hnS (New0.cell hu c1)⟩
  rw [← hx]
  clear hx hnS hb hbox
  go_enter Tryd.func33, Tryd.ntmps33
  go_wp2_with fail
  refine (hsz.out _).mono ?_
  rintro e w2 ⟨rfl, hu2⟩
  clear c0 c1 hsz
  go_wp2_with fail
  refine (hg.out _ hu2).mono ?_
  rintro e w3 ⟨rfl, h3, c1⟩
  clear hg
  replace h3 := Lib.hid h3
  by_cases h0 : x = 0
  · have hd : ((x : Int) != 0) = false := by rw [h0]; rfl
    go_wp2_with fail
    go_ret2
    exact ⟨ret_ub (by rw [h0]; simp) (by rw [h0]; simp), h3.out⟩
  · have hd : ((x : Int) != 0) = true := by rw [bne_iff_ne]; omega
    go_wp2_with fail
    go_ret2
    exact ⟨ret_ub (by rw [Int.natCast_emod, Int.natCast_mul, Int.natCast_pow]; rfl) (by simp [h0]), h3.out⟩
set_option maxHeartbeats 3200000 in
theorem getBetween_no (S : Nat → Prop) (p l t n : Nat) (K : List Bool) (w : World) (h : IsRK w S p K) (hlt : l + t ≤ 64) (hn : n = 64 - l - t) (hle : ¬ n ≤ K.length) :
    Calls Tryd.prog 33 #[win l t, .pointer (some ⟨p, 0, none⟩)] w fun e w' => e = .returned (.tuple #[.int .u64 0, .bool false]) ∧ ObjStep (fun w S => IsRK w S p K) S w w' := by
  have hbox : New0 w (w.alloc (.cells #[.int .i64 (l : Int), .int .i64 (t : Int)] 52 (0, 0))) := (Upon.refl _ w).alloc _
  have c0 : (w.alloc (.cells #[.int .i64 (l : Int), .int .i64 (t : Int)] 52 (0, 0))).cell? ⟨w.heap.size, 0, none⟩ = some (.int .i64 (l : Int)) := by rw [Lib.cell_of_heap (cell_new w _)]; rfl
  have c1 : (w.alloc (.cells #[.int .i64 (l : Int), .int .i64 (t : Int)] 52 (0, 0))).cell? ⟨w.heap.size, 1, none⟩ = some (.int .i64 (t : Int)) := by rw [Lib.cell_of_heap (cell_new w _)]; rfl
  have hnS : ¬ S w.heap.size := fun hs => by have := (objRK p K).lt w S h _ hs; omega
  have hb : IsRK (w.alloc (.cells #[.int .i64 (l : Int), .int .i64 (t : Int)] 52 (0, 0))) S p K := (objRK p K).kept _ _ S h (fun b hb => hbox.block b ((objRK p K).lt w S h b hb) fun f => f) hbox.size
  have hsz := Lib.hid (fun w => size_any l t hlt w)
  rw [← hn] at hsz
  have hn64 : n ≤ 64 := by omega
  clear hn h
  have hg : Hid (∀ w2, New0 (w.alloc (.cells #[.int .i64 (l : Int), .int .i64 (t : Int)] 52 (0, 0))) w2 → Calls Tryd.prog 32 #[.pointer (some ⟨p, 0, none⟩), .int .i64 (n : Int)] w2 fun e w' => e = .returned (.tuple #[.int .u64 0, .bool false]) ∧ ObjStep (fun w S => IsRK w S p K) S w w' ∧ w'.cell? ⟨w.heap.size, 1, none⟩ = some (.int .i64 (t : Int))) := Lib.hid fun w2 hu => by
    have hb2 : IsRK w2 S p K := (objRK p K).kept _ _ S hb (fun b hb3 => hu.block b ((objRK p K).lt _ S hb b hb3) fun f => f) hu.size
    exact (rkGet_no S p K n w2 hb2 (by omega)).mono fun e w' ⟨he, hs⟩ => ⟨he, preNew (hbox.trans hu) hs, cellBeside hs hnS (New0.cell hu c1)⟩
  clear hnS hb hbox
  go_enter Tryd.func33, Tryd.ntmps33
  go_wp2_with fail
  refine (hsz.out _).mono ?_
  rintro e w2 ⟨rfl, hu2⟩
  clear c0 c1 hsz
  go_wp2_with fail
  refine (hg.out _ hu2).mono ?_
  rintro e w3 ⟨rfl, h3, c1⟩
  clear hg
  replace h3 := Lib.hid h3
  go_wp2_with fail
  go_ret2
  exact ⟨rfl, h3.out⟩

/-! ### a window that is read -/
theorem win_zero : (Tryd.prog.info? 52).map (fun i => (i.zero, i.size)) = some (some (win 0 0), 2) := by kernel_rfl
theorem frozenBeside {I : Ob.Rel} {S : Nat → Prop} {w w' : World} (H : ObjStep I S w w') {b o : Nat} (hb : ¬ S b) (hl : b < w.heap.size) (hc : w.frozen? ⟨b, o, none⟩ = false) : w'.frozen? ⟨b, o, none⟩ = false := by
  rw [← hc, World.frozen?, World.frozen?, H.upon.block _ hl hb]
/-- A block beside an object, new since w, is written. -/
theorem endBeside {I : Ob.Rel} (hI : Thing I) {S : Nat → Prop} {w wb w' w'' : World} {g : Nat} (hbox : New0 w wb) (H : ObjStep I S wb w') (hg : ¬ S g) (h1 : w.heap.size ≤ g) (h2 : g < wb.heap.size) (hu : Upon (fun b => b = g) w' w'') : ObjStep I S w w'' := by
  obtain ⟨⟨S', k1, k2, k3⟩, ku⟩ := H
  refine ⟨⟨S', hI.kept _ _ S' k1 (fun b hb => hu.block b (hI.lt _ S' k1 b hb) fun e => ?_) hu.size, k2, fun b hb => (k3 b hb).imp id fun h => Nat.le_trans hbox.size h⟩, ((hbox.mono (T := S) fun _ _ f => f.elim).trans ku).trans' hu fun i hi e => ?_⟩
  · subst e
    rcases k3 b hb with h | h
    · exact hg h
    · omega
  · omega
/-- The cells of a new window, whatever is done beside it. -/
structure Boxed (g : Nat) (a b : Value) (w : World) : Prop where
  c0 : w.cell? ⟨g, 0, none⟩ = some a
  c1 : w.cell? ⟨g, 1, none⟩ = some b
  f0 : w.frozen? ⟨g, 0, none⟩ = false
  f1 : w.frozen? ⟨g, 1, none⟩ = false
theorem Boxed.of {g : Nat} {a b : Value} {w : World} {T : TypeId} (h : w.heap[g]? = some (.cells #[a, b] T (0, 0))) : Boxed g a b w :=
  ⟨(cell2 h).1, (cell2 h).2.1, (cell2 h).2.2 0, (cell2 h).2.2 1⟩
theorem Boxed.beside {g : Nat} {a b : Value} {I : Ob.Rel} {S : Nat → Prop} {w w' : World} (h : Boxed g a b w) (H : ObjStep I S w w') (hb : ¬ S g) : Boxed g a b w' :=
  have hl := World.block_lt_of_cell? w _ h.c0
  ⟨cellBeside H hb h.c0, cellBeside H hb h.c1, frozenBeside H hb hl h.f0, frozenBeside H hb hl h.f1⟩
theorem World.set_other {w : World} {g : Nat} {o o2 : Nat} {v x : Value} (hne : o2 ≠ o) (h : w.cell? ⟨g, o, none⟩ = some x) : (w.setCell ⟨g, o2, none⟩ v).cell? ⟨g, o, none⟩ = some x :=
  (World.cell?_setCell_other w _ _ _ (by intro e; injection e with _ e2; exact hne (by first | exact e2 | exact e2.symm))).trans h
/-- Both cells are written. -/
theorem Boxed.set {g : Nat} {a b : Value} {w : World} (h : Boxed g a b w) (x y : Value) : (w.setCell ⟨g, 0, none⟩ x).cell? ⟨g, 1, none⟩ = some b ∧ (w.setCell ⟨g, 0, none⟩ x).frozen? ⟨g, 1, none⟩ = false ∧ ((w.setCell ⟨g, 0, none⟩ x).setCell ⟨g, 1, none⟩ y).cell? ⟨g, 0, none⟩ = some x ∧ ((w.setCell ⟨g, 0, none⟩ x).setCell ⟨g, 1, none⟩ y).cell? ⟨g, 1, none⟩ = some y := by
  have h1 : (w.setCell ⟨g, 0, none⟩ x).cell? ⟨g, 1, none⟩ = some b := World.set_other (by decide) h.c1
  refine ⟨h1, ?_, World.set_other (by decide) (World.cell?_setCell_same w _ _ h.c0), World.cell?_setCell_same _ _ _ h1⟩
  exact (World.frozen?_setCell w _ _ _).trans h.f1
theorem upon_set2 (w : World) (g : Nat) (x y : Value) : Upon (fun b => b = g) w ((w.setCell ⟨g, 0, none⟩ x).setCell ⟨g, 1, none⟩ y) :=
  Upon.setCell (S := fun b => b = g) (p := ⟨g, 1, none⟩) (Upon.setCell (S := fun b => b = g) (p := ⟨g, 0, none⟩) (Upon.refl _ w) (.inl rfl) x) (.inl rfl) y
theorem rkStep {S : Nat → Prop} {w0 w : World} {p : Nat} {K K' : List Bool} {x : Nat} (H : ObjStep (fun w S => IsRK w S p K) S w0 w) (m : Nat) (hm : m ≤ 64) (hle : m ≤ K.length) (hx : numOf (K.take m) = x) (e : K.drop m = K') :
    Calls Tryd.prog 32 #[.pointer (some ⟨p, 0, none⟩), .int .i64 (m : Int)] w fun e w' => e = .returned (.tuple #[.int .u64 (x : Int), .bool true]) ∧ ObjStep (fun w S => IsRK w S p K') S w0 w' := by
  subst e; subst hx
  exact callW (Q := fun e => e = .returned (.tuple #[.int .u64 (numOf (K.take m) : Int), .bool true])) H fun A h => rkGet_ok A p K m w h hm hle
theorem rkStepNo {S : Nat → Prop} {w0 w : World} {p : Nat} {K : List Bool} (H : ObjStep (fun w S => IsRK w S p K) S w0 w) (m : Nat) (hle : K.length < m) :
    Calls Tryd.prog 32 #[.pointer (some ⟨p, 0, none⟩), .int .i64 (m : Int)] w fun e w' => e = .returned (.tuple #[.int .u64 0, .bool false]) ∧ ObjStep (fun w S => IsRK w S p K) S w0 w' :=
  callW (Q := fun e => e = .returned (.tuple #[.int .u64 0, .bool false])) H fun A h => rkGet_no A p K m w h (by omega)
set_option maxHeartbeats 3200000 in
theorem getWindow_no5 (S : Nat → Prop) (p : Nat) (K : List Bool) (w : World) (h : IsRK w S p K) (hle : K.length < 5) :
    Calls Tryd.prog 40 #[.pointer (some ⟨p, 0, none⟩)] w fun e w' => e = .returned (.tuple #[win 0 0, .bool false]) ∧ ∃ K', ObjStep (fun w S => IsRK w S p K') S w w' := by
  have hbox : New0 w (w.alloc (.cells #[.int .i64 0, .int .i64 0] 52 (0, 0))) := (Upon.refl _ w).alloc _
  have hb : IsRK (w.alloc (.cells #[.int .i64 0, .int .i64 0] 52 (0, 0))) S p K := (objRK p K).kept _ _ S h (fun b hb => hbox.block b ((objRK p K).lt w S h b hb) fun f => f) hbox.size
  have hnS : ¬ S w.heap.size := fun hs => by have := (objRK p K).lt w S h _ hs; omega
  have hB : Boxed w.heap.size (.int .i64 0) (.int .i64 0) (w.alloc (.cells #[.int .i64 0, .int .i64 0] 52 (0, 0))) := Boxed.of (cell_new w _)
  have hend : Hid (∀ K' w' x y, ObjStep (fun w S => IsRK w S p K') S (w.alloc (.cells #[.int .i64 0, .int .i64 0] 52 (0, 0))) w' → ObjStep (fun w S => IsRK w S p K') S w ((w'.setCell ⟨w.heap.size, 0, none⟩ x).setCell ⟨w.heap.size, 1, none⟩ y)) :=
    Lib.hid fun K' w' x y H => endBeside (objRK p K') hbox H hnS (Nat.le_refl _) (by simp) (upon_set2 _ _ _ _)
  have hB2 : Hid (∀ K' w', ObjStep (fun w S => IsRK w S p K') S (w.alloc (.cells #[.int .i64 0, .int .i64 0] 52 (0, 0))) w' → Boxed w.heap.size (.int .i64 0) (.int .i64 0) w') := Lib.hid fun K' w' H => hB.beside H hnS
  have H0 := ObjStep.refl (I := fun w S => IsRK w S p K) hb
  clear h hb hnS hB hbox
  have hg := Lib.hid (rkStepNo H0 5 hle)
  clear H0
  go_enter Tryd.func40, Tryd.ntmps40
  go_wp2_with fail
  refine hg.out.mono ?_
  rintro e w2 ⟨rfl, h2⟩
  clear hg
  obtain ⟨c0, c1, f0, f1⟩ := hB2.out _ _ h2
  obtain ⟨d1, d2, d3, d4⟩ := (hB2.out _ _ h2).set (.int .i64 0) (.int .i64 0)
  have hE := Lib.hid (hend.out _ _ (.int .i64 0) (.int .i64 0) h2)
  clear hB2 hend h2
  go_wp2_with fail
  refine bodyPost_ret (v := .tuple #[.agg #[.int .i64 0, .int .i64 0], .bool false]) (by simp [results, Tryd.results40, go_sem, d3, d4]) rfl ⟨rfl, _, hE.out⟩
set_option maxHeartbeats 3200000 in
theorem getWindow_no11 (S : Nat → Prop) (p : Nat) (K : List Bool) (w : World) (h : IsRK w S p K) (h5 : 5 ≤ K.length) (hle : K.length < 11) :
    Calls Tryd.prog 40 #[.pointer (some ⟨p, 0, none⟩)] w fun e w' => e = .returned (.tuple #[win 0 0, .bool false]) ∧ ∃ K', ObjStep (fun w S => IsRK w S p K') S w w' := by
  have hbox : New0 w (w.alloc (.cells #[.int .i64 0, .int .i64 0] 52 (0, 0))) := (Upon.refl _ w).alloc _
  have hb : IsRK (w.alloc (.cells #[.int .i64 0, .int .i64 0] 52 (0, 0))) S p K := (objRK p K).kept _ _ S h (fun b hb => hbox.block b ((objRK p K).lt w S h b hb) fun f => f) hbox.size
  have hnS : ¬ S w.heap.size := fun hs => by have := (objRK p K).lt w S h _ hs; omega
  have hB : Boxed w.heap.size (.int .i64 0) (.int .i64 0) (w.alloc (.cells #[.int .i64 0, .int .i64 0] 52 (0, 0))) := Boxed.of (cell_new w _)
  have hend : Hid (∀ K' w' x y, ObjStep (fun w S => IsRK w S p K') S (w.alloc (.cells #[.int .i64 0, .int .i64 0] 52 (0, 0))) w' → ObjStep (fun w S => IsRK w S p K') S w ((w'.setCell ⟨w.heap.size, 0, none⟩ x).setCell ⟨w.heap.size, 1, none⟩ y)) :=
    Lib.hid fun K' w' x y H => endBeside (objRK p K') hbox H hnS (Nat.le_refl _) (by simp) (upon_set2 _ _ _ _)
  have hB2 : Hid (∀ K' w', ObjStep (fun w S => IsRK w S p K') S (w.alloc (.cells #[.int .i64 0, .int .i64 0] 52 (0, 0))) w' → Boxed w.heap.size (.int .i64 0) (.int .i64 0) w') := Lib.hid fun K' w' H => hB.beside H hnS
  have H0 := ObjStep.refl (I := fun w S => IsRK w S p K) hb
  clear h hb hnS hB hbox
  have hg := Lib.hid (rkStep H0 5 (by omega) h5 rfl rfl)
  clear H0
  go_enter Tryd.func40, Tryd.ntmps40
  go_wp2_with fail
  refine hg.out.mono ?_
  rintro e w2 ⟨rfl, h2⟩
  clear hg
  have hg2 := Lib.hid (rkStepNo h2 6 (by rw [List.length_drop]; omega))
  clear h2
  go_wp2_with fail
  refine hg2.out.mono ?_
  rintro e w3 ⟨rfl, h3⟩
  clear hg2
  obtain ⟨c0, c1, f0, f1⟩ := hB2.out _ _ h3
  obtain ⟨d1, d2, d3, d4⟩ := (hB2.out _ _ h3).set (.int .i64 0) (.int .i64 0)
  have hE := Lib.hid (hend.out _ _ (.int .i64 0) (.int .i64 0) h3)
  clear hB2 hend h3
  go_wp2_with fail
  refine bodyPost_ret (v := .tuple #[.agg #[.int .i64 0, .int .i64 0], .bool false]) (by simp [results, Tryd.results40, go_sem, d3, d4]) rfl ⟨rfl, _, hE.out⟩
set_option maxHeartbeats 3200000 in
theorem getWindow_not (S : Nat → Prop) (p : Nat) (K : List Bool) (w : World) (h : IsRK w S p K) (h11 : 11 ≤ K.length) (P Q : Nat) (hP : numOf (K.take 5) = P) (hQ : numOf ((K.drop 5).take 6) = Q) (hs : 64 < P + Q + 1) :
    Calls Tryd.prog 40 #[.pointer (some ⟨p, 0, none⟩)] w fun e w' => e = .returned (.tuple #[win 0 0, .bool false]) ∧ ∃ K', ObjStep (fun w S => IsRK w S p K') S w w' := by
  have hbox : New0 w (w.alloc (.cells #[.int .i64 0, .int .i64 0] 52 (0, 0))) := (Upon.refl _ w).alloc _
  have hb : IsRK (w.alloc (.cells #[.int .i64 0, .int .i64 0] 52 (0, 0))) S p K := (objRK p K).kept _ _ S h (fun b hb => hbox.block b ((objRK p K).lt w S h b hb) fun f => f) hbox.size
  have hnS : ¬ S w.heap.size := fun hs => by have := (objRK p K).lt w S h _ hs; omega
  have hB : Boxed w.heap.size (.int .i64 0) (.int .i64 0) (w.alloc (.cells #[.int .i64 0, .int .i64 0] 52 (0, 0))) := Boxed.of (cell_new w _)
  have hend : Hid (∀ K' w' x y, ObjStep (fun w S => IsRK w S p K') S (w.alloc (.cells #[.int .i64 0, .int .i64 0] 52 (0, 0))) w' → ObjStep (fun w S => IsRK w S p K') S w ((w'.setCell ⟨w.heap.size, 0, none⟩ x).setCell ⟨w.heap.size, 1, none⟩ y)) :=
    Lib.hid fun K' w' x y H => endBeside (objRK p K') hbox H hnS (Nat.le_refl _) (by simp) (upon_set2 _ _ _ _)
  have hB2 : Hid (∀ K' w', ObjStep (fun w S => IsRK w S p K') S (w.alloc (.cells #[.int .i64 0, .int .i64 0] 52 (0, 0))) w' → Boxed w.heap.size (.int .i64 0) (.int .i64 0) w') := Lib.hid fun K' w' H => hB.beside H hnS
  have H0 := ObjStep.refl (I := fun w S => IsRK w S p K) hb
  clear h hb hnS hB hbox
  have hPl : P < 32 := by
    have := numOf_lt (K.take 5)
    rw [hP, List.length_take, Nat.min_eq_left (by omega)] at this
    exact this
  have hQl : Q < 64 := by
    have := numOf_lt ((K.drop 5).take 6)
    rw [hQ, List.length_take, List.length_drop, Nat.min_eq_left (by omega)] at this
    exact this
  have hg := Lib.hid (rkStep H0 5 (by omega) (by omega) hP rfl)
  have hQ2 := Lib.hid hQ
  clear H0 hP hQ
  have hd : decide ((64 : Int) - (P : Int) - (Q : Int) - 1 < 0) = true := decide_eq_true (by omega)
  go_enter Tryd.func40, Tryd.ntmps40
  go_wp2_with fail
  refine hg.out.mono ?_
  rintro e w2 ⟨rfl, h2⟩
  clear hg
  have hg2 := Lib.hid (rkStep h2 6 (by omega) (by rw [List.length_drop]; omega) hQ2.out (by rw [List.drop_drop]))
  clear h2 hQ2
  go_wp2_with fail
  refine hg2.out.mono ?_
  rintro e w3 ⟨rfl, h3⟩
  clear hg2
  obtain ⟨c0, c1, f0, f1⟩ := hB2.out _ _ h3
  obtain ⟨d1, d2, d3, d4⟩ := (hB2.out _ _ h3).set (.int .i64 0) (.int .i64 0)
  have hE := Lib.hid (hend.out _ _ (.int .i64 0) (.int .i64 0) h3)
  clear hB2 hend h3
  go_wp2_with fail
  refine bodyPost_ret (v := .tuple #[.agg #[.int .i64 0, .int .i64 0], .bool false]) (by simp [results, Tryd.results40, go_sem, d3, d4]) rfl ⟨rfl, _, hE.out⟩
set_option maxHeartbeats 3200000 in
theorem getWindow_ok (S : Nat → Prop) (p : Nat) (K : List Bool) (w : World) (h : IsRK w S p K) (h11 : 11 ≤ K.length) (P Q : Nat) (hP : numOf (K.take 5) = P) (hQ : numOf ((K.drop 5).take 6) = Q) (hs : P + Q + 1 ≤ 64) :
    Calls Tryd.prog 40 #[.pointer (some ⟨p, 0, none⟩)] w fun e w' => e = .returned (.tuple #[win P (63 - P - Q), .bool true]) ∧ ObjStep (fun w S => IsRK w S p (K.drop 11)) S w w' := by
  have hbox : New0 w (w.alloc (.cells #[.int .i64 0, .int .i64 0] 52 (0, 0))) := (Upon.refl _ w).alloc _
  have hb : IsRK (w.alloc (.cells #[.int .i64 0, .int .i64 0] 52 (0, 0))) S p K := (objRK p K).kept _ _ S h (fun b hb => hbox.block b ((objRK p K).lt w S h b hb) fun f => f) hbox.size
  have hnS : ¬ S w.heap.size := fun hs => by have := (objRK p K).lt w S h _ hs; omega
  have hB : Boxed w.heap.size (.int .i64 0) (.int .i64 0) (w.alloc (.cells #[.int .i64 0, .int .i64 0] 52 (0, 0))) := Boxed.of (cell_new w _)
  have hend : Hid (∀ K' w' x y, ObjStep (fun w S => IsRK w S p K') S (w.alloc (.cells #[.int .i64 0, .int .i64 0] 52 (0, 0))) w' → ObjStep (fun w S => IsRK w S p K') S w ((w'.setCell ⟨w.heap.size, 0, none⟩ x).setCell ⟨w.heap.size, 1, none⟩ y)) :=
    Lib.hid fun K' w' x y H => endBeside (objRK p K') hbox H hnS (Nat.le_refl _) (by simp) (upon_set2 _ _ _ _)
  have hB2 : Hid (∀ K' w', ObjStep (fun w S => IsRK w S p K') S (w.alloc (.cells #[.int .i64 0, .int .i64 0] 52 (0, 0))) w' → Boxed w.heap.size (.int .i64 0) (.int .i64 0) w') := Lib.hid fun K' w' H => hB.beside H hnS
  have H0 := ObjStep.refl (I := fun w S => IsRK w S p K) hb
  clear h hb hnS hB hbox
  have hPl : P < 32 := by
    have := numOf_lt (K.take 5)
    rw [hP, List.length_take, Nat.min_eq_left (by omega)] at this
    exact this
  have hQl : Q < 64 := by
    have := numOf_lt ((K.drop 5).take 6)
    rw [hQ, List.length_take, List.length_drop, Nat.min_eq_left (by omega)] at this
    exact this
  have hg := Lib.hid (rkStep H0 5 (by omega) (by omega) hP rfl)
  have hQ2 := Lib.hid hQ
  clear H0 hP hQ
  have hd : decide ((64 : Int) - (P : Int) - (Q : Int) - 1 < 0) = false := decide_eq_false (by omega)
  have hi : (64 : Int) - (P : Int) - (Q : Int) - 1 = ((63 - P - Q : Nat) : Int) := by omega
  go_enter Tryd.func40, Tryd.ntmps40
  go_wp2_with fail
  refine hg.out.mono ?_
  rintro e w2 ⟨rfl, h2⟩
  clear hg
  have hg2 := Lib.hid (rkStep h2 6 (by omega) (by rw [List.length_drop]; omega) hQ2.out (by rw [List.drop_drop]))
  clear h2 hQ2
  go_wp2_with fail
  refine hg2.out.mono ?_
  rintro e w3 ⟨rfl, h3⟩
  clear hg2
  obtain ⟨c0, c1, f0, f1⟩ := hB2.out _ _ h3
  obtain ⟨d1, d2, d3, d4⟩ := (hB2.out _ _ h3).set (.int .i64 (P : Int)) (.int .i64 ((63 - P - Q : Nat) : Int))
  have hE := Lib.hid (hend.out _ _ (.int .i64 (P : Int)) (.int .i64 ((63 - P - Q : Nat) : Int)) h3)
  clear hB2 hend h3
  go_wp2_with fail
  refine bodyPost_ret (v := .tuple #[win P (63 - P - Q), .bool true]) (by simp [results, Tryd.results40, go_sem, d3, d4]) rfl ⟨rfl, hE.out⟩
end Xr
end Go.Proofs.YtiimdinefkbhlaaDoor
