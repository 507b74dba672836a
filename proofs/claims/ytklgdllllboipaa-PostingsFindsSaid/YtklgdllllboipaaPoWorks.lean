/- The laws' own works (layer 14): the chapter's examples. -/
import Derived.Test.YtklgdllllboipaaPoRef4
import Derived.Test.YtklgdllllboipaaPoLaw1
set_option maxRecDepth 100000
namespace Go.Proofs.Ytklgdllllboipaa
open Go.RowKit Go.Sort
namespace Po
open Bit Dsk Ob Dig
set_option linter.unusedVariables false
theorem view_lit (w : World) (l : List Int) (cs : Array Value) (h : cs = (l.map (Value.int .i64)).toArray) (hl : l.length ≤ 100) : IView (w.alloc (.cells cs 3 (0, 0))) All (.slice (some ⟨w.heap.size, 0, none⟩) l.length l.length) l := by
  refine ⟨_, l.length, rfl, Nat.le_refl _, by unfold maxLen; omega, fun _ => ⟨_, 0, rfl, trivial, fun i hi t u ht => ?_⟩⟩
  have ht' : t = 0 := by have := (List.getElem?_eq_some_iff.1 ht).1; simp [layI] at this; omega
  subst ht'
  have ht2 : u = .int .i64 l[i] := by simpa [layI] using ht.symm
  rw [ht2]
  have hc := cell_new w (.cells cs 3 (0, 0))
  have e : cs[i]? = some (.int .i64 l[i]) := by rw [h]; simp [hi]
  have h2 : (w.alloc (.cells cs 3 (0, 0))).cell? ⟨w.heap.size, i, none⟩ = some (.int .i64 l[i]) := by
    unfold World.cell?
    rw [hc]
    exact e
  have e2 : 0 + i * layI.k + 0 = i := by show 0 + i * 1 + 0 = i; omega
  rw [e2]
  exact h2
/-- A row in a block. -/
theorem mine_lit {α : Type} {L : Rw.Lay α} {T : TypeId} (w : World) (l : List α) (cs : Array Value) (h : cs.toList = Rw.cells L l) (hl : l.length ≤ 100) : Rw.Mine L T (w.alloc (.cells cs T (0, 0))) (.slice (some ⟨w.heap.size, 0, none⟩) l.length l.length) l :=
  ⟨Rw.cells_len L l, .inr ⟨w.heap.size, l.length, cs, rfl, Nat.zero_le _, cell_new w _, Nat.le_refl _, by unfold maxLen; omega, by rw [← Array.length_toList, h, Rw.cells_len], by rw [h, ← Rw.cells_len, List.take_length]⟩⟩
abbrev b1 (x : UInt8) : ByteArray := ⟨#[x]⟩
def rs0 : List (List Lb.Pr) := [[(b1 97, b1 49)], [(b1 97, b1 50), (b1 98, b1 49)]]
theorem few0 : Few rs0 := by
  have hs : ∀ x y : UInt8, Sz (b1 x, b1 y) := fun x y => ⟨by show 1 ≤ maxLen; unfold maxLen; omega, by show 1 ≤ maxLen; unfold maxLen; omega⟩
  refine ⟨by decide, fun r hr => ?_, fun r hr q hq => ?_⟩
  · rcases List.mem_cons.1 hr with rfl | hr
    · decide
    · rw [List.mem_singleton.1 hr]; decide
  · rcases List.mem_cons.1 hr with rfl | hr
    · rw [List.mem_singleton.1 hq]; exact hs _ _
    · rw [List.mem_singleton.1 hr] at hq
      rcases List.mem_cons.1 hq with rfl | hq
      · exact hs _ _
      · rw [List.mem_singleton.1 hq]; exact hs _ _
theorem of0 : sel (has rs0 (b1 98, b1 49)) rs0.length = [1] := by decide
theorem find0 : sel (asked rs0 [((2 : Int), b1 97, b1 49)]) rs0.length = [1] := by decide
set_option maxHeartbeats 6400000 in
theorem works_any (w : World) : Calls Try.prog 20 #[] w fun e w' => e = .returned (.bool true) ∧ New0 w w' := by
  have E1 : (w.alloc (.cells #[.int .i64 3, .int .i64 1, .int .i64 2] 3 (0, 0))).heap.size = w.heap.size + 1 := by simp
  have E2 : ((w.alloc (.cells #[.int .i64 3, .int .i64 1, .int .i64 2] 3 (0, 0))).alloc (.cells #[.int .i64 2, .int .i64 3, .int .i64 5] 3 (0, 0))).heap.size = w.heap.size + 1 + 1 := by simp
  have E3 : (((w.alloc (.cells #[.int .i64 3, .int .i64 1, .int .i64 2] 3 (0, 0))).alloc (.cells #[.int .i64 2, .int .i64 3, .int .i64 5] 3 (0, 0))).alloc (.cells #[.string (b1 97), .string (b1 49)] 28 (0, 0))).heap.size = w.heap.size + 1 + 1 + 1 := by simp
  have E4 : ((((w.alloc (.cells #[.int .i64 3, .int .i64 1, .int .i64 2] 3 (0, 0))).alloc (.cells #[.int .i64 2, .int .i64 3, .int .i64 5] 3 (0, 0))).alloc (.cells #[.string (b1 97), .string (b1 49)] 28 (0, 0))).alloc (.cells #[.string (b1 97), .string (b1 50), .string (b1 98), .string (b1 49)] 28 (0, 0))).heap.size = w.heap.size + 1 + 1 + 1 + 1 := by simp
  have V1 : IView (w.alloc (.cells #[.int .i64 3, .int .i64 1, .int .i64 2] 3 (0, 0))) All (.slice (some ⟨w.heap.size, 0, none⟩) 3 3) [3, 1, 2] := view_lit w [3, 1, 2] _ rfl (by decide)
  have V2 : IView ((w.alloc (.cells #[.int .i64 3, .int .i64 1, .int .i64 2] 3 (0, 0))).alloc (.cells #[.int .i64 2, .int .i64 3, .int .i64 5] 3 (0, 0))) All (.slice (some ⟨w.heap.size + 1, 0, none⟩) 3 3) [2, 3, 5] := by rw [← E1]; exact view_lit _ [2, 3, 5] _ rfl (by decide)
  have P1 : Lb.View (((w.alloc (.cells #[.int .i64 3, .int .i64 1, .int .i64 2] 3 (0, 0))).alloc (.cells #[.int .i64 2, .int .i64 3, .int .i64 5] 3 (0, 0))).alloc (.cells #[.string (b1 97), .string (b1 49)] 28 (0, 0))) All (.slice (some ⟨w.heap.size + 1 + 1, 0, none⟩) 1 1) [(b1 97, b1 49)] := by rw [← E2]; exact (mine_lit (L := Lb.layPr) (T := 28) _ [(b1 97, b1 49)] _ rfl (by decide)).view.all
  have P2 : Lb.View ((((w.alloc (.cells #[.int .i64 3, .int .i64 1, .int .i64 2] 3 (0, 0))).alloc (.cells #[.int .i64 2, .int .i64 3, .int .i64 5] 3 (0, 0))).alloc (.cells #[.string (b1 97), .string (b1 49)] 28 (0, 0))).alloc (.cells #[.string (b1 97), .string (b1 50), .string (b1 98), .string (b1 49)] 28 (0, 0))) All (.slice (some ⟨w.heap.size + 1 + 1 + 1, 0, none⟩) 2 2) [(b1 97, b1 50), (b1 98, b1 49)] := by rw [← E3]; exact (mine_lit (L := Lb.layPr) (T := 28) _ [(b1 97, b1 50), (b1 98, b1 49)] _ rfl (by decide)).view.all
  have u2 := (Upon.refl (fun _ => False) (w.alloc (.cells #[.int .i64 3, .int .i64 1, .int .i64 2] 3 (0, 0)))).alloc (.cells #[.int .i64 2, .int .i64 3, .int .i64 5] 3 (0, 0))
  have u3 := (Upon.refl (fun _ => False) ((w.alloc (.cells #[.int .i64 3, .int .i64 1, .int .i64 2] 3 (0, 0))).alloc (.cells #[.int .i64 2, .int .i64 3, .int .i64 5] 3 (0, 0)))).alloc (.cells #[.string (b1 97), .string (b1 49)] 28 (0, 0))
  have u4 := (Upon.refl (fun _ => False) (((w.alloc (.cells #[.int .i64 3, .int .i64 1, .int .i64 2] 3 (0, 0))).alloc (.cells #[.int .i64 2, .int .i64 3, .int .i64 5] 3 (0, 0))).alloc (.cells #[.string (b1 97), .string (b1 49)] 28 (0, 0)))).alloc (.cells #[.string (b1 97), .string (b1 50), .string (b1 98), .string (b1 49)] 28 (0, 0))
  have u5 := (Upon.refl (fun _ => False) ((((w.alloc (.cells #[.int .i64 3, .int .i64 1, .int .i64 2] 3 (0, 0))).alloc (.cells #[.int .i64 2, .int .i64 3, .int .i64 5] 3 (0, 0))).alloc (.cells #[.string (b1 97), .string (b1 49)] 28 (0, 0))).alloc (.cells #[.string (b1 97), .string (b1 50), .string (b1 98), .string (b1 49)] 28 (0, 0)))).alloc (.cells #[.slice (some ⟨w.heap.size + 1 + 1, 0, none⟩) 1 1, .slice (some ⟨w.heap.size + 1 + 1 + 1, 0, none⟩) 2 2] 29 (0, 0))
  have R5 : PView (((((w.alloc (.cells #[.int .i64 3, .int .i64 1, .int .i64 2] 3 (0, 0))).alloc (.cells #[.int .i64 2, .int .i64 3, .int .i64 5] 3 (0, 0))).alloc (.cells #[.string (b1 97), .string (b1 49)] 28 (0, 0))).alloc (.cells #[.string (b1 97), .string (b1 50), .string (b1 98), .string (b1 49)] 28 (0, 0))).alloc (.cells #[.slice (some ⟨w.heap.size + 1 + 1, 0, none⟩) 1 1, .slice (some ⟨w.heap.size + 1 + 1 + 1, 0, none⟩) 2 2] 29 (0, 0))) All (.slice (some ⟨w.heap.size + 1 + 1 + 1 + 1, 0, none⟩) 2 2) rs0 := by
    refine ⟨[⟨some ⟨w.heap.size + 1 + 1, 0, none⟩, 1, 1⟩, ⟨some ⟨w.heap.size + 1 + 1 + 1, 0, none⟩, 2, 2⟩], ?_, rfl, fun i h1 h2 => ?_⟩
    · rw [← E4]
      exact (mine_lit (L := layS) (T := 29) _ [⟨some ⟨w.heap.size + 1 + 1, 0, none⟩, 1, 1⟩, ⟨some ⟨w.heap.size + 1 + 1 + 1, 0, none⟩, 2, 2⟩] _ rfl (by simp)).view.all
    · have hi : i = 0 ∨ i = 1 := by simp at h1; omega
      rcases hi with rfl | rfl
      · exact Rw.View.new (Rw.View.new P1 u4) u5
      · exact Rw.View.new P2 u5
  have Va := Lib.hid (Rw.View.new V1 (((u2.trans u3).trans u4).trans u5))
  have Vb := Lib.hid (Rw.View.new V2 ((u3.trans u4).trans u5))
  have hU : Hid (New0 w (((((w.alloc (.cells #[.int .i64 3, .int .i64 1, .int .i64 2] 3 (0, 0))).alloc (.cells #[.int .i64 2, .int .i64 3, .int .i64 5] 3 (0, 0))).alloc (.cells #[.string (b1 97), .string (b1 49)] 28 (0, 0))).alloc (.cells #[.string (b1 97), .string (b1 50), .string (b1 98), .string (b1 49)] 28 (0, 0))).alloc (.cells #[.slice (some ⟨w.heap.size + 1 + 1, 0, none⟩) 1 1, .slice (some ⟨w.heap.size + 1 + 1 + 1, 0, none⟩) 2 2] 29 (0, 0)))) := Lib.hid (((((Upon.refl _ w).alloc (.cells #[.int .i64 3, .int .i64 1, .int .i64 2] 3 (0, 0))).trans u2).trans (u3.trans u4)).trans u5)
  have HN := Lib.hid (new_any _ _ rs0 R5 (by decide) (by decide))
  clear E1 E2 E3 E4 V1 V2 P1 P2 u2 u3 u4 u5 R5
  go_enter Try.func20, Try.ntmps20
  go_wp2_with fail
  refine HN.out.mono ?_
  rintro e z0 hNE
  obtain ⟨p, u, rfl, hp, hI, hN⟩ := hNE.idx
  replace Va := Lib.hid (Rw.View.new Va.out hN)
  replace Vb := Lib.hid (Rw.View.new Vb.out hN)
  have hpw : w.heap.size ≤ p := by have := hU.out.size; omega
  replace hU := Lib.hid (hU.out.trans hN)
  replace hI := Lib.hid hI
  clear hNE HN hN hp
  have HC := Lib.hid (and_any _ _ _ _ _ _ _ Va.out Vb.out (by first | omega | decide) (by first | omega | decide))
  go_wp2_with fail
  refine HC.out.mono ?_
  rintro e z1 ⟨vp, rp, rfl, Vp, Up, Mp, Lp, hN⟩
  replace Va := Lib.hid (Rw.View.new Va.out hN)
  replace Vb := Lib.hid (Rw.View.new Vb.out hN)
  replace hU := Lib.hid (hU.out.trans hN)
  replace hI := Lib.hid (hI.out.new hN)
  clear hN HC
  replace Vp := Lib.hid Vp
  replace Up := Lib.hid Up
  replace Mp := Lib.hid Mp
  have hN : New0 z1 (z1.alloc (.cells #[.int .i64 2, .int .i64 3] 3 (0, 0))) := (Upon.refl _ z1).alloc _
  replace Va := Lib.hid (Rw.View.new Va.out hN)
  replace Vb := Lib.hid (Rw.View.new Vb.out hN)
  replace Vp := Lib.hid (Rw.View.new Vp.out hN)
  replace hU := Lib.hid (hU.out.trans hN)
  replace hI := Lib.hid (hI.out.new hN)
  clear hN
  have Vc : Hid (IView (z1.alloc (.cells #[.int .i64 2, .int .i64 3] 3 (0, 0))) All (.slice (some ⟨z1.heap.size, 0, none⟩) 2 2) [2, 3]) := Lib.hid (view_lit z1 [2, 3] _ rfl (by decide))
  have HC := same_any _ _ _ _ _ _ _ Vp.out Vc.out
  rw [show decide (rp = [2, 3]) = true from decide_eq_true (up_ext Up.out (by decide) (fun x => (Mp.out x).trans (by simp; omega)))] at HC
  replace HC := Lib.hid HC
  go_wp2_with fail
  refine HC.out.mono ?_
  rintro e z2 ⟨rfl, hN⟩
  replace Va := Lib.hid (Rw.View.new Va.out hN)
  replace Vb := Lib.hid (Rw.View.new Vb.out hN)
  replace Vp := Lib.hid (Rw.View.new Vp.out hN)
  replace Vc := Lib.hid (Rw.View.new Vc.out hN)
  replace hU := Lib.hid (hU.out.trans hN)
  replace hI := Lib.hid (hI.out.new hN)
  clear hN HC
  clear Vp Up Mp
  clear Vc
  have HC := Lib.hid (or_any _ _ _ _ _ _ _ Va.out Vb.out (by first | omega | decide) (by first | omega | decide))
  go_wp2_with fail
  refine HC.out.mono ?_
  rintro e z3 ⟨vp, rp, rfl, Vp, Up, Mp, Lp, hN⟩
  replace Va := Lib.hid (Rw.View.new Va.out hN)
  replace Vb := Lib.hid (Rw.View.new Vb.out hN)
  replace hU := Lib.hid (hU.out.trans hN)
  replace hI := Lib.hid (hI.out.new hN)
  clear hN HC
  replace Vp := Lib.hid Vp
  replace Up := Lib.hid Up
  replace Mp := Lib.hid Mp
  have hN : New0 z3 (z3.alloc (.cells #[.int .i64 1, .int .i64 2, .int .i64 3, .int .i64 5] 3 (0, 0))) := (Upon.refl _ z3).alloc _
  replace Va := Lib.hid (Rw.View.new Va.out hN)
  replace Vb := Lib.hid (Rw.View.new Vb.out hN)
  replace Vp := Lib.hid (Rw.View.new Vp.out hN)
  replace hU := Lib.hid (hU.out.trans hN)
  replace hI := Lib.hid (hI.out.new hN)
  clear hN
  have Vc : Hid (IView (z3.alloc (.cells #[.int .i64 1, .int .i64 2, .int .i64 3, .int .i64 5] 3 (0, 0))) All (.slice (some ⟨z3.heap.size, 0, none⟩) 4 4) [1, 2, 3, 5]) := Lib.hid (view_lit z3 [1, 2, 3, 5] _ rfl (by decide))
  have HC := same_any _ _ _ _ _ _ _ Vp.out Vc.out
  rw [show decide (rp = [1, 2, 3, 5]) = true from decide_eq_true (up_ext Up.out (by decide) (fun x => (Mp.out x).trans (by simp; omega)))] at HC
  replace HC := Lib.hid HC
  go_wp2_with fail
  refine HC.out.mono ?_
  rintro e z4 ⟨rfl, hN⟩
  replace Va := Lib.hid (Rw.View.new Va.out hN)
  replace Vb := Lib.hid (Rw.View.new Vb.out hN)
  replace Vp := Lib.hid (Rw.View.new Vp.out hN)
  replace Vc := Lib.hid (Rw.View.new Vc.out hN)
  replace hU := Lib.hid (hU.out.trans hN)
  replace hI := Lib.hid (hI.out.new hN)
  clear hN HC
  clear Vp Up Mp
  clear Vc
  have HC := Lib.hid (less_any _ _ _ _ _ _ _ Va.out Vb.out (by first | omega | decide) (by first | omega | decide))
  go_wp2_with fail
  refine HC.out.mono ?_
  rintro e z5 ⟨vp, rp, rfl, Vp, Up, Mp, Lp, hN⟩
  replace Va := Lib.hid (Rw.View.new Va.out hN)
  replace Vb := Lib.hid (Rw.View.new Vb.out hN)
  replace hU := Lib.hid (hU.out.trans hN)
  replace hI := Lib.hid (hI.out.new hN)
  clear hN HC
  replace Vp := Lib.hid Vp
  replace Up := Lib.hid Up
  replace Mp := Lib.hid Mp
  have hN : New0 z5 (z5.alloc (.cells #[.int .i64 1] 3 (0, 0))) := (Upon.refl _ z5).alloc _
  replace Va := Lib.hid (Rw.View.new Va.out hN)
  replace Vb := Lib.hid (Rw.View.new Vb.out hN)
  replace Vp := Lib.hid (Rw.View.new Vp.out hN)
  replace hU := Lib.hid (hU.out.trans hN)
  replace hI := Lib.hid (hI.out.new hN)
  clear hN
  have Vc : Hid (IView (z5.alloc (.cells #[.int .i64 1] 3 (0, 0))) All (.slice (some ⟨z5.heap.size, 0, none⟩) 1 1) [1]) := Lib.hid (view_lit z5 [1] _ rfl (by decide))
  have HC := same_any _ _ _ _ _ _ _ Vp.out Vc.out
  rw [show decide (rp = [1]) = true from decide_eq_true (up_ext Up.out (by decide) (fun x => (Mp.out x).trans (by simp; omega)))] at HC
  replace HC := Lib.hid HC
  go_wp2_with fail
  refine HC.out.mono ?_
  rintro e z6 ⟨rfl, hN⟩
  replace Va := Lib.hid (Rw.View.new Va.out hN)
  replace Vb := Lib.hid (Rw.View.new Vb.out hN)
  replace Vp := Lib.hid (Rw.View.new Vp.out hN)
  replace Vc := Lib.hid (Rw.View.new Vc.out hN)
  replace hU := Lib.hid (hU.out.trans hN)
  replace hI := Lib.hid (hI.out.new hN)
  clear hN HC
  clear Vp Up Mp
  clear Vc
  clear Va
  clear Vb
  have HC := Lib.hid (of_any _ p u rs0 (b1 98, b1 49) hI.out few0 ⟨by decide, by decide⟩)
  unfold prV at HC
  simp only at HC
  go_wp2_with fail
  refine HC.out.mono ?_
  rintro e z7 ⟨vf, rfl, Vf, hI, hN⟩
  replace hU := Lib.hid (hU.out.trans' hN (fun k h1 h2 => by omega))
  replace hI := Lib.hid hI
  replace Vf := Lib.hid Vf
  clear hN HC
  have hN : New0 z7 (z7.alloc (.cells #[.int .i64 1] 3 (0, 0))) := (Upon.refl _ z7).alloc _
  replace Vf := Lib.hid (Rw.View.new Vf.out hN)
  replace hU := Lib.hid (hU.out.trans hN)
  replace hI := Lib.hid (hI.out.new hN)
  clear hN
  have Vc : Hid (IView (z7.alloc (.cells #[.int .i64 1] 3 (0, 0))) All (.slice (some ⟨z7.heap.size, 0, none⟩) 1 1) [1]) := Lib.hid (view_lit z7 [1] _ rfl (by decide))
  have HC := same_any _ _ _ _ _ _ _ Vf.out Vc.out
  rw [show decide (sel (has rs0 (b1 98, b1 49)) rs0.length = [1]) = true from decide_eq_true (of0)] at HC
  replace HC := Lib.hid HC
  go_wp2_with fail
  refine HC.out.mono ?_
  rintro e z8 ⟨rfl, hN⟩
  replace Vf := Lib.hid (Rw.View.new Vf.out hN)
  replace Vc := Lib.hid (Rw.View.new Vc.out hN)
  replace hU := Lib.hid (hU.out.trans hN)
  replace hI := Lib.hid (hI.out.new hN)
  clear hN HC
  clear Vf
  clear Vc
  have hmv : Mt.View (z8.alloc (.cells #[.int .i64 2, .string (b1 97), .string (b1 49)] 41 (0, 0))) (fun b => b ≠ p) (.slice (some ⟨z8.heap.size, 0, none⟩) 1 1) [((2 : Int), b1 97, b1 49)] := Rw.View.mono (mine_lit (L := Mt.layM) (T := 41) _ [((2 : Int), b1 97, b1 49)] _ rfl (by decide)).view (fun b _ hb => by have := hI.out.lt; have := Option.some.inj hb; simp at this; omega)
  have hN : New0 z8 (z8.alloc (.cells #[.int .i64 2, .string (b1 97), .string (b1 49)] 41 (0, 0))) := (Upon.refl _ z8).alloc _
  replace hU := Lib.hid (hU.out.trans hN)
  replace hI := Lib.hid (hI.out.new hN)
  clear hN
  have HC := Lib.hid (find_any _ p u rs0 _ [((2 : Int), b1 97, b1 49)] hI.out few0 hmv (fun m hm => by rw [List.mem_singleton.1 hm]; exact ⟨by decide, by decide, by decide, by decide⟩))
  go_wp2_with fail
  refine HC.out.mono ?_
  rintro e z9 ⟨vf, rfl, Vf, hI, hN⟩
  replace hU := Lib.hid (hU.out.trans' hN (fun k h1 h2 => by omega))
  replace hI := Lib.hid hI
  replace Vf := Lib.hid Vf
  clear hN HC
  have hN : New0 z9 (z9.alloc (.cells #[.int .i64 1] 3 (0, 0))) := (Upon.refl _ z9).alloc _
  replace Vf := Lib.hid (Rw.View.new Vf.out hN)
  replace hU := Lib.hid (hU.out.trans hN)
  replace hI := Lib.hid (hI.out.new hN)
  clear hN
  have Vc : Hid (IView (z9.alloc (.cells #[.int .i64 1] 3 (0, 0))) All (.slice (some ⟨z9.heap.size, 0, none⟩) 1 1) [1]) := Lib.hid (view_lit z9 [1] _ rfl (by decide))
  have HC := same_any _ _ _ _ _ _ _ Vf.out Vc.out
  rw [show decide (sel (asked rs0 [((2 : Int), b1 97, b1 49)]) rs0.length = [1]) = true from decide_eq_true (find0)] at HC
  replace HC := Lib.hid HC
  go_wp2_with fail
  refine HC.out.mono ?_
  rintro e z10 ⟨rfl, hN⟩
  replace Vf := Lib.hid (Rw.View.new Vf.out hN)
  replace Vc := Lib.hid (Rw.View.new Vc.out hN)
  replace hU := Lib.hid (hU.out.trans hN)
  replace hI := Lib.hid (hI.out.new hN)
  clear hN HC
  clear Vf
  clear Vc
  go_wp2_with fail
  go_ret
  exact ⟨rfl, hU.out⟩
end Po
end Go.Proofs.Ytklgdllllboipaa
