/- The program's chosen, And, Less (layer 14). -/
import Derived.Test.YtklgdllllboipaaPoRis
set_option maxRecDepth 100000
namespace Go.Proofs.Ytklgdllllboipaa
open Go.RowKit Go.Sort
namespace Po
open Bit Dsk Ob Dig
set_option linter.unusedVariables false
theorem asks_any (W : World) (S : Nat → Prop) (v : Value) (r : List Int) (h : Bool) (a b : Addr) (x : Int) (hv : IView W S v r) (hl : r.length ≤ 1000000) (hs : Up r) (ca : W.cell? a = some v) (cb : W.cell? b = some (.bool h)) :
    FnGives Try.prog 34 #[.pointer (some a), .pointer (some b)] #[.int .i64 x] (.bool (decide (x ∈ r) != h)) W := by
  show Calls Try.prog 34 #[.int .i64 x, .pointer (some a), .pointer (some b)] W _
  have HB := Lib.hid (search_any W S v r x hv hl hs)
  have cb2 := Lib.hid (fun q : Nat => (show (W.drewN q).cell? b = some (.bool h) from cb))
  obtain ⟨A, c, rfl, -, -⟩ := Rw.View.shape hv
  clear hv cb
  obtain ⟨y, hy⟩ : ∃ y, decide (x ∈ r) = y := ⟨_, rfl⟩
  rw [hy] at HB ⊢
  clear hy hs
  go_enter Try.func34, Try.ntmps34
  go_wp2_with fail
  refine HB.out.mono ?_
  rintro e w2 ⟨i, rfl, q, rfl⟩
  have cb3 := cb2.out q
  clear HB cb2
  go_wp2_with fail
  go_ret
  exact ⟨by cases y <;> cases h <;> rfl, q, rfl⟩
set_option maxHeartbeats 1600000 in
theorem chosen_any (w : World) (S S' : Nat → Prop) (v u : Value) (l m : List Int) (h : Bool) (hv : IView w S v l) (hu : IView w S' u m) (hl : l.length ≤ 1000000) (hm : m.length ≤ 1000000) :
    Calls Try.prog 21 #[v, u, .bool h] w fun e w' => SetE w (fun x => x ∈ l ∧ decide (x ∈ m) = h) l.length e w' := by
  have HR := Lib.hid (fun w' (k : New0 w w') => rising_any w' S' u m (Rw.View.new hu k) hm)
  have HL := Lib.hid (fun w' (k : New0 w w') => rising_any w' S v l (Rw.View.new hv k) hl)
  obtain ⟨A, c, rfl, -, -⟩ := Rw.View.shape hv
  obtain ⟨A', c', rfl, -, -⟩ := Rw.View.shape hu
  clear hv hu
  have u1 : Hid (New0 w (w.alloc (.cells #[.bool h] 4 (0, 0)))) := Lib.hid ((Upon.refl _ w).alloc _)
  have c1 : Hid ((w.alloc (.cells #[.bool h] 4 (0, 0))).heap[w.heap.size]? = some (.cells #[.bool h] 4 (0, 0))) := Lib.hid (cell_new w _)
  have s1 : (w.alloc (.cells #[.bool h] 4 (0, 0))).heap.size = w.heap.size + 1 := by simp
  go_enter Try.func21, Try.ntmps21
  go_wp2_with fail
  refine (HR.out _ u1.out).mono ?_
  rintro e w2 ⟨v2, r, rfl, hr2, ho2, hup, hmem, hlen, hu2⟩
  have u2 := Lib.hid (u1.out.trans hu2)
  have c2 := Lib.hid ((hu2.block _ (by rw [s1]; omega) (fun f => f)).trans c1.out)
  have s2 : w.heap.size + 1 ≤ w2.heap.size := by have := hu2.size; omega
  replace hr2 := Lib.hid hr2
  replace hmem := Lib.hid hmem
  replace hup := Lib.hid hup
  have hrl : Hid (r.length ≤ 1000000) := Lib.hid (by omega)
  have ho2' : Hid (∀ g, v2.ownBlock = some g → g < w2.heap.size) := Lib.hid fun g hg => hr2.out.lt hg
  clear HR hu2 u1 c1 s1 ho2 hlen
  obtain ⟨A2, c2', hv2, -, -⟩ := Rw.View.shape hr2.out.view
  subst hv2
  go_wp2_with fail
  have u3 : Hid (New0 w (w2.alloc (.cells #[.slice A2 r.length c2'] 22 (0, 0)))) := Lib.hid (u2.out.alloc _)
  have hr3 : Hid (IMine (w2.alloc (.cells #[.slice A2 r.length c2'] 22 (0, 0))) (.slice A2 r.length c2') r) := Lib.hid (hr2.out.new ((Upon.refl _ w2).alloc _))
  have c3 : Hid ((w2.alloc (.cells #[.slice A2 r.length c2'] 22 (0, 0))).heap[w.heap.size]? = some (.cells #[.bool h] 4 (0, 0))) := Lib.hid ((((Upon.refl (fun _ => False) w2).alloc _).block _ (by omega) (fun f => f)).trans c2.out)
  have d3 : Hid ((w2.alloc (.cells #[.slice A2 r.length c2'] 22 (0, 0))).heap[w2.heap.size]? = some (.cells #[.slice A2 r.length c2'] 22 (0, 0))) := Lib.hid (cell_new w2 _)
  have s3 : (w2.alloc (.cells #[.slice A2 r.length c2'] 22 (0, 0))).heap.size = w2.heap.size + 1 := by simp
  clear u2 hr2 c2
  generalize w2.alloc (.cells #[.slice A2 r.length c2'] 22 (0, 0)) = w3 at *
  refine (HL.out _ u3.out).mono ?_
  rintro e w4 ⟨v4, z, rfl, hz, hoz, hzup, hzmem, hzlen, hu4⟩
  have HD := Lib.hid (delete_any w4 v4 z (fun x => decide (x ∈ r) != h) 34 #[.pointer (some ⟨w2.heap.size, 0, none⟩), .pointer (some ⟨w.heap.size, 0, none⟩)] hz (by omega) (fun args w => by kernel_rfl) (fun W x k => by
    have kb : ∀ b, b < w3.heap.size → W.heap[b]? = w3.heap[b]? := fun b hb => (k.block b (by have := hu4.size; omega) (fun e => by have := hoz b e; omega)).trans (hu4.block b hb (fun f => f))
    refine asks_any W All _ r h _ _ x (Rw.View.all (Rw.Mine.view (hr3.out.kept fun b hb => kb b (hr3.out.lt hb)))) hrl.out hup.out ?_ ?_
    · rw [World.cell?, kb _ (by show w2.heap.size < w3.heap.size; omega), d3.out]; rfl
    · rw [World.cell?, kb _ (by show w.heap.size < w3.heap.size; omega), c3.out]; rfl))
  have hE : Hid (∀ W v5, IMine W v5 (z.filter fun x => !(decide (x ∈ r) != h)) → v5.ownBlock = v4.ownBlock → Upon (fun k => v4.ownBlock = some k) w4 W → SetE w (fun x => x ∈ l ∧ decide (x ∈ m) = h) l.length (.returned v5) W) := Lib.hid fun W v5 k1 k2 k3 =>
    ⟨v5, _, rfl, (Rw.Mine.view k1).all, up_filter hzup _, fun x => by
      rw [List.mem_filter, hzmem, show decide (x ∈ r) = decide (x ∈ m) from decide_eq_decide.2 (hmem.out x)]
      obtain ⟨y, hy⟩ : ∃ y, decide (x ∈ m) = y := ⟨_, rfl⟩
      simp only [hy]
      clear hy
      cases y <;> cases h <;> simp, Nat.le_trans (List.length_filter_le _ _) hzlen, (u3.out.trans hu4).trans' k3 (fun k hk e => by have := hoz k e; have := u3.out.size; omega)⟩
  clear HL hz hoz hzup hzmem hzlen hu4 hr3 c3 d3 s3 u3 hmem hup hrl ho2' s2
  go_wp2_with fail
  refine HD.out.mono ?_
  rintro e w5 ⟨v5, rfl, k1, k2, k3⟩
  have hF := Lib.hid (hE.out _ _ k1 k2 k3)
  clear HD k1 k2 k3 hE
  go_wp2_with fail
  go_ret
  exact hF.out
theorem SetE.mono {w w' : World} {P P' : Int → Prop} {N N' : Nat} {e : Ending} (h : SetE w P N e w') (hP : ∀ x, P x ↔ P' x) (hN : N ≤ N') : SetE w P' N' e w' := by
  obtain ⟨v, r, h1, h2, h3, h4, h5, h6⟩ := h
  exact ⟨v, r, h1, h2, h3, fun x => (h4 x).trans (hP x), Nat.le_trans h5 hN, h6⟩
theorem and_any (w : World) (S S' : Nat → Prop) (v u : Value) (l m : List Int) (hv : IView w S v l) (hu : IView w S' u m) (hl : l.length ≤ 1000000) (hm : m.length ≤ 1000000) :
    Calls Try.prog 9 #[v, u] w fun e w' => SetE w (fun x => x ∈ l ∧ x ∈ m) l.length e w' := by
  have HC := Lib.hid ((chosen_any w S S' v u l m true hv hu hl hm).mono fun e w' k => SetE.mono (P' := fun x => x ∈ l ∧ x ∈ m) k (fun x => by simp) (Nat.le_refl _))
  go_enter Try.func9, Try.ntmps9
  go_wp2_with fail
  refine HC.out.mono ?_
  rintro e w5 ⟨v5, r, rfl, k⟩
  have hF : Hid (SetE w (fun x => x ∈ l ∧ x ∈ m) l.length (.returned v5) w5) := Lib.hid ⟨v5, r, rfl, k⟩
  clear HC k
  go_wp2_with fail
  go_ret
  exact hF.out
theorem less_any (w : World) (S S' : Nat → Prop) (v u : Value) (l m : List Int) (hv : IView w S v l) (hu : IView w S' u m) (hl : l.length ≤ 1000000) (hm : m.length ≤ 1000000) :
    Calls Try.prog 13 #[v, u] w fun e w' => SetE w (fun x => x ∈ l ∧ ¬ x ∈ m) l.length e w' := by
  have HC := Lib.hid ((chosen_any w S S' v u l m false hv hu hl hm).mono fun e w' k => SetE.mono (P' := fun x => x ∈ l ∧ ¬ x ∈ m) k (fun x => by simp) (Nat.le_refl _))
  go_enter Try.func13, Try.ntmps13
  go_wp2_with fail
  refine HC.out.mono ?_
  rintro e w5 ⟨v5, r, rfl, k⟩
  have hF : Hid (SetE w (fun x => x ∈ l ∧ ¬ x ∈ m) l.length (.returned v5) w5) := Lib.hid ⟨v5, r, rfl, k⟩
  clear HC k
  go_wp2_with fail
  go_ret
  exact hF.out
end Po
end Go.Proofs.Ytklgdllllboipaa
