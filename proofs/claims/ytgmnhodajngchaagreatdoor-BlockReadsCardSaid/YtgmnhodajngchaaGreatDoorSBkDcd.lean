/- Parts: BkRefC, BkEnc4, BkDcd. -/
import Derived.Test.YtgmnhodajngchaaGreatDoorSBkBoth
import Derived.Test.YtgmnhodajngchaaGreatDoorSBkDecR
import Derived.Test.YtgmnhodajngchaaGreatDoorSBkRefE
import Derived.Test.YtgmnhodajngchaaGreatDoorSCkRefD2
set_option maxRecDepth 100000
set_option linter.unusedSimpArgs false
set_option linter.unusedVariables false
namespace Go.Proofs.YtgmnhodajngchaaGreatDoor
section
open Go.RowKit Go.Sort
namespace Bk
open Bit Dsk Ob Dig
theorem bnd_zero : Bnd zero := ⟨⟨by decide, by decide⟩, ⟨by decide, by decide⟩, fun r h => (by cases h), fun r h => (by cases h), fun r h => (by cases h), fun r h => (by cases h), by decide, by decide⟩
def DocE (w : World) (sl : List UInt8) (e : Ending) (w' : World) : Prop := ∃ (v : Value) (b : B) (x : Nat), e = .returned (.tuple #[v, .int .i64 (x : Int)]) /\ Dec sl b x /\ BView w' Rw.All v b /\ Bnd b /\ New0 w w'
theorem DocE.no {w w' : World} {sl : List UInt8} (h : Not sl) (hu : New0 w w') : DocE w sl (.returned (.tuple #[.agg #[.int .i64 0, .int .i64 0, .slice none 0 0, .slice none 0 0], .int .i64 3])) w' :=
 ⟨_, zero, 3, rfl, dec_not h, BView.noth _ _, bnd_zero, hu⟩
theorem frm_cells : ∀ (fs : List Fr) (i : Nat) (h : i < fs.length), (Frm.cellsL fs)[i * 2]? = some (.int .i64 (fs[i].1 : Int)) /\ (Frm.cellsL fs)[i * 2 + 1]? = some (.string fs[i].2)
 | [], i, h => absurd h (by simp)
 | p :: fs, 0, h => ⟨rfl, rfl⟩
 | p :: fs, i + 1, h => by
  have := frm_cells fs i (by simpa using h)
  rw [show (i + 1) * 2 = i * 2 + 1 + 1 by omega]
  exact this
theorem frm_holds {w : World} {A : Option Addr} {fs : List Fr} (h : Frm.Holds w A fs.length (Frm.cellsL fs)) (hp : 0 < fs.length) : ∃ b, A = some ⟨b, 0, none⟩ /\ b < w.heap.size /\ ∀ i (hi : i < fs.length), w.cell? ⟨b, i * 2, none⟩ = some (.int .i64 (fs[i].1 : Int)) /\ w.cell? ⟨b, i * 2 + 1, none⟩ = some (.string fs[i].2) := by
 obtain ⟨b, h1, h2, h3⟩ := h hp
 exact ⟨b, h1, h2, fun i hi => ⟨h3 _ _ (frm_cells fs i hi).1, h3 _ _ (frm_cells fs i hi).2⟩⟩
theorem Scn.nums {s : ByteArray} {fs : List Fr} (h : Scn s fs) (hl : 0 < fs.length) {s3 s4 : ByteArray} {n1 n2 e3 e4 : Nat} (hx1 : Rc.Nx Rc.numR fs[0].2 0 n1 s3 e3) (hx2 : Rc.Nx Rc.numR s3 e3 n2 s4 e4) (hb : e4 ≠ 0 \/ 99999999 < n1 \/ 99999999 < n2) : Not s.data.toList := fun c ic hc => by
 obtain ⟨r1, r2, k1, k2, k3, k4, k5, k6⟩ := h.head hl ic hc
 rcases hx1.1 rfl with ⟨rfl, h1⟩ | ⟨h0, h1⟩
 ·rw [k1] at h1
  obtain ⟨f1, f2⟩ := Prod.mk.inj (Except.ok.inj h1)
  subst f2
  rcases hx2.1 rfl with ⟨rfl, h2⟩ | ⟨h0, h2⟩
  ·rw [k2] at h2
   obtain ⟨f3, -⟩ := Prod.mk.inj (Except.ok.inj h2)
   omega
  ·rw [k2] at h2; cases h2
 ·rw [k1] at h1; cases h1
theorem Rf.begin {s : ByteArray} {fs : List Fr} (h : Scn s fs) (hl : 0 < fs.length) {s3 s4 : ByteArray} {n1 n2 e3 : Nat} (hx1 : Rc.Nx Rc.numR fs[0].2 0 n1 s3 e3) (hx2 : Rc.Nx Rc.numR s3 e3 n2 s4 0) : Rf s fs ⟨n1, n2, [], []⟩ 0 := by
 have he : e3 = 0 := by
  by_cases h0 : e3 = 0
  ·exact h0
  ·have := hx2.2 h0; omega
 subst he
 exact Rf.start h hl (nx_ok hx1) (nx_ok hx2)
structure FineR (l : List Row) (ms : List Rc.R) (k : Nat) : Prop where
 row : ∀ r ∈ l, InRow r /\ Lb.Sml r.lab /\ r.lab.length * 32 <= 140737488351232 /\ r.pts.length <= 80000
 del : ∀ r ∈ ms, Rc.Rng r /\ Hd.RBnd r
 few : l.length <= k /\ ms.length <= k
theorem FineR.addDel {l : List Row} {ms : List Rc.R} {k : Nat} (h : FineR l ms k) {r : Rc.R} (h1 : Rc.Rng r) (h2 : Hd.RBnd r) : FineR l (ms ++ [r]) (k + 1) :=
 ⟨h.row, fun x hx => by
  rcases List.mem_append.1 hx with hx | hx
  ·exact h.del x hx
  ·rw [List.mem_singleton.1 hx]; exact ⟨h1, h2⟩, by have := h.few; rw [List.length_append, List.length_singleton]; omega⟩
theorem fine_bnd {n1 n2 : Nat} {l : List Row} {ms : List Rc.R} {k : Nat} (h : FineR l ms k) (h1 : n1 <= 99999999) (h2 : n2 <= 99999999) (hk : k <= 5000) : Bnd ⟨n1, n2, l, ms⟩ /\ Few ⟨n1, n2, l, ms⟩ /\ InR ⟨n1, n2, l, ms⟩ := by
 have hf := h.few
 refine ⟨⟨⟨by simp only; omega, by simp only; omega⟩, ⟨by simp only; omega, by simp only; omega⟩, fun r hr => (h.row r hr).2.1, fun r hr => (h.row r hr).1, fun r hr => ⟨(h.row r hr).2.2.1, ?_⟩, fun r hr => (h.del r hr).2, by simp only; omega, by simp only; omega⟩, ⟨by simp only; omega, by simp only; omega, fun r hr => ?_⟩, ⟨fun r hr => (h.row r hr).1, fun r hr => (h.del r hr).1, by simp only; omega, by simp only; omega⟩⟩
 ·have := (h.row r hr).2.2.2; omega
 ·have := (h.row r hr).2.2.2; omega
theorem Rf.not {s : ByteArray} {fs : List Fr} {b : B} {k : Nat} (h : Rf s fs b k) (hk : k + 2 = fs.length) (he : enc b ≠ (s.data.toList, 0)) : Not s.data.toList := fun c ic hc => he (by rw [<- h.last hk ic hc]; exact hc)
theorem rbnd_of {d : List UInt8} {r : Rc.R} (h : Rc.dec d = (r, 0)) : Hd.RBnd r := by
 obtain ⟨h1, -, h3⟩ := Rc.dec_back h
 refine ⟨Rc.bnd_of h1 h3, ?_⟩
 rcases Rc.chk_zero.1 h1 with hc | hd
 ·have := hc.few
  rw [hc.ms]
  exact ⟨by omega, by simp⟩
 ·rw [hd.smp]
  have := (Mt.chk_zero.1 hd.ms).1
  exact ⟨by simp, by omega⟩
theorem ne_rr : 79 ≠ 47 := by decide
theorem FineR.addRow {l : List Row} {ms : List Rc.R} {k : Nat} (h : FineR l ms k) {r : Row} (h1 : InRow r) (h2 : Lb.Sml r.lab) (h3 : r.lab.length * 32 <= 140737488351232) (h4 : r.pts.length <= 80000) : FineR (l ++ [r]) ms (k + 1) :=
 ⟨fun x hx => by
  rcases List.mem_append.1 hx with hx | hx
  ·exact h.row x hx
  ·rw [List.mem_singleton.1 hx]; exact ⟨h1, h2, h3, h4⟩, h.del, by have := h.few; rw [List.length_append, List.length_singleton]; omega⟩
set_option maxHeartbeats 12800000 in
theorem refdoc_any (HDN : ∀ (w : World) (t : ByteArray), t.size <= 65536 -> Calls Tryz.prog 25 #[.string t] w fun e w' => ∃ v, e = .returned (.tuple #[v, .int .i64 ((Rc.dec t.data.toList).2 : Int)]) /\ Rc.RView w' (Lb.Nw w) v (Rc.dec t.data.toList).1 /\ Rc.Rng (Rc.dec t.data.toList).1 /\ New0 w w') (w : World) (s : ByteArray) (hs : s.size <= 5000) :
  Calls Tryz.prog 8 #[.string s] w (DocE w s.data.toList) := by
 obtain ⟨wA, hwA⟩ : ∃ wA, w.alloc (.cells #[.int .i64 0, .int .i64 0, .slice none 0 0, .slice none 0 0] 31 (0, 0)) = wA := ⟨_, rfl⟩
 have hres : Quad 31 w.heap.size ⟨.int .i64 0, .int .i64 0, .slice none 0 0, .slice none 0 0⟩ wA := by rw [<- hwA]; exact cell_new w _
 have hN0 : New0 w wA := by rw [<- hwA]; exact (Upon.refl _ w).alloc _
 have hsz : wA.heap.size = w.heap.size + 1 := by rw [<- hwA]; simp
 have HS := Frm.refscan_any s (by omega) wA
 unfold Frm.Scanned at HS
 obtain ⟨⟨fs, m, e⟩, hr⟩ : ∃ x, Frm.scanF (s.size + 1) s 0 = x := ⟨_, rfl⟩
 have hfew := scan_few (s.size + 1) s 0
 have hcnt := (Frm.scan_count (s.size + 1) s 0 (Nat.zero_le _)).1
 rw [hr] at HS hfew hcnt
 simp only at HS hfew hcnt
 have hscn := Lib.hid (scn_of hr)
 replace hfew := Lib.hid hfew
 replace HDN := HDN
 replace HS := Lib.hid HS
 replace hwA := Lib.hid hwA
 replace hres := Lib.hid hres
 replace hN0 := Lib.hid hN0
 replace hsz := Lib.hid hsz
 go_enter Tryz.func8, Tryz.ntmps8
 go_wp2_with fail
 rw [hwA.out]
 refine HS.out.mono ?_
 rintro e' w2 ⟨v, rfl, hown, hb2⟩
 obtain ⟨A, c, rfl, hc, hh⟩ := Frm.holds_own hown
 have hu2 := Lib.hid (newOf hb2)
 clear HS hown hb2 hwA
 by_cases he : e = 0
 ·subst he
  by_cases hl2 : fs.length < 2
  ·have hD := Lib.hid (hscn.out.few hl2)
   have d2 : decide ((fs.length : Int) < 2) = true := decide_eq_true (by omega)
   clear hr hh
   have hF := hres.out.new hu2.out
   obtain ⟨g0, g1, g2, g3⟩ := hF.cells
   have z0 := hF.frozen 0
   obtain ⟨⟨p1, q1⟩, ⟨p2, q2⟩, ⟨p3, q3⟩⟩ := hF.roads ⟨.int .i64 0, .int .i64 0, .slice none 0 0, .slice none 0 0⟩
   have hN := hN0.out.trans hu2.out
   obtain ⟨wz, hwz⟩ : ∃ wz, ((((w2.setCell ⟨w.heap.size, 0, none⟩ (.int .i64 0)).setCell ⟨w.heap.size, 1, none⟩ (.int .i64 0)).setCell ⟨w.heap.size, 2, none⟩ (.slice none 0 0)).setCell ⟨w.heap.size, 3, none⟩ (.slice none 0 0)) = wz := ⟨_, rfl⟩
   have hFz := (hF.setAll ⟨.int .i64 0, .int .i64 0, .slice none 0 0, .slice none 0 0⟩).cells
   unfold setQuad at hFz
   simp only at hFz
   rw [hwz] at hFz
   replace hFz := Lib.hid hFz
   have hNz : Hid (New0 w wz) := Lib.hid (by rw [<- hwz]; exact upon_setQuad hN (.inr (Nat.le_refl _)) ⟨.int .i64 0, .int .i64 0, .slice none 0 0, .slice none 0 0⟩)
   have hwz' : Hid (((((w2.setCell ⟨w.heap.size, 0, none⟩ (.int .i64 0)).setCell ⟨w.heap.size, 1, none⟩ (.int .i64 0)).setCell ⟨w.heap.size, 2, none⟩ (.slice none 0 0)).setCell ⟨w.heap.size, 3, none⟩ (.slice none 0 0)) = wz) := Lib.hid hwz
   clear hwz hF hN 
   go_wp2_with fail
   rw [hwz'.out]
   obtain ⟨r0, r1, r2, r3⟩ := hFz.out
   clear g0 g1 g2 g3 z0 p1 q1 p2 q2 p3 q3
   refine bodyPost_ret (v := .tuple #[.agg #[.int .i64 0, .int .i64 0, .slice none 0 0, .slice none 0 0], .int .i64 3]) (by simp [results, Tryz.results8, go_sem, r0, r1, r2, r3]) rfl ?_
   exact DocE.no hD.out hNz.out
  ·have d2 : decide ((fs.length : Int) < 2) = false := decide_eq_false (by omega)
   have hp0 : 0 < fs.length := by omega
   obtain ⟨fb, rfl, hfb, hcl⟩ := frm_holds hh hp0
   obtain ⟨q0, q1⟩ := hcl 0 hp0
   rw [Nat.zero_mul] at q0 q1
   obtain ⟨⟨k0, dat⟩, hf0⟩ : ∃ x, fs[0] = x := ⟨_, rfl⟩
   rw [hf0] at q0 q1
   simp only at q0 q1
   have hfd := hfew.out _ (List.getElem_mem hp0)
   rw [hf0] at hfd
   simp only at hfd
   replace hcl := Lib.hid hcl
   replace hfb := Lib.hid hfb
   by_cases hk0 : k0 = 2
   ·subst hk0
    obtain ⟨w3, hw3⟩ : ∃ w3, w2.alloc (.cells #[.string dat, .int .i64 0] 77 (0, 0)) = w3 := ⟨_, rfl⟩
    have H3 : Own (Lb.InO w2.heap.size dat 0) w2 w3 := by rw [<- hw3]; exact Rw.box2Own (Below.refl _ _) (.string dat) (.int .i64 ((0 : Nat) : Int)) _
    have HN := Lib.hid (Rc.rNum Mt.thingNo (Mt.ownNo (Lb.thingIn _ _ _) H3) (by omega))
    replace hw3 := Lib.hid hw3
    replace hf0 := Lib.hid hf0
    clear hr hh H3
    go_wp2_with fail
    rw [hw3.out]
    refine HN.out.mono ?_
    rintro e' w4 ⟨n1, s3, e3, rfl, hn1, hs3, hx1, h4⟩
    have HN2 := Lib.hid (Rc.rNum Mt.thingNo h4 hs3)
    clear HN h4 hw3 q0 q1
    go_wp2_with fail
    refine HN2.out.mono ?_
    rintro e' w5 ⟨n2, s4, e4, rfl, hn2, hs4, hx2, h5⟩
    obtain ⟨c0, c1, f0, f1⟩ := Mt.ioBox h5
    have hu5 := Lib.hid (hu2.out.trans (newOf h5.bel))
    have hu25 := Lib.hid (newOf h5.bel)
    have hnum := Lib.hid (fun hb => hscn.out.nums hp0 (by rw [hf0.out]; exact hx1) hx2 hb)
    have hbeg := Lib.hid (fun (h0 : e4 = 0) => Rf.begin hscn.out hp0 (by rw [hf0.out]; exact hx1) (h0 ▸ hx2))
    clear HN2 h5 hx1 hx2
    by_cases he4 : e4 = 0
    ·subst he4
     by_cases hb1 : 99999999 < n1
     ·have d5 : decide ((99999999 : Int) < (n1 : Int)) = true := decide_eq_true (by omega)
      have hD := Lib.hid (hnum.out (.inr (.inl hb1)))
      have hF := hres.out.new hu5.out
      obtain ⟨g0, g1, g2, g3⟩ := hF.cells
      have z0 := hF.frozen 0
      obtain ⟨⟨p1, q1⟩, ⟨p2, q2⟩, ⟨p3, q3⟩⟩ := hF.roads ⟨.int .i64 0, .int .i64 0, .slice none 0 0, .slice none 0 0⟩
      have hN := hN0.out.trans hu5.out
      obtain ⟨wz, hwz⟩ : ∃ wz, ((((w5.setCell ⟨w.heap.size, 0, none⟩ (.int .i64 0)).setCell ⟨w.heap.size, 1, none⟩ (.int .i64 0)).setCell ⟨w.heap.size, 2, none⟩ (.slice none 0 0)).setCell ⟨w.heap.size, 3, none⟩ (.slice none 0 0)) = wz := ⟨_, rfl⟩
      have hFz := (hF.setAll ⟨.int .i64 0, .int .i64 0, .slice none 0 0, .slice none 0 0⟩).cells
      unfold setQuad at hFz
      simp only at hFz
      rw [hwz] at hFz
      replace hFz := Lib.hid hFz
      have hNz : Hid (New0 w wz) := Lib.hid (by rw [<- hwz]; exact upon_setQuad hN (.inr (Nat.le_refl _)) ⟨.int .i64 0, .int .i64 0, .slice none 0 0, .slice none 0 0⟩)
      have hwz' : Hid (((((w5.setCell ⟨w.heap.size, 0, none⟩ (.int .i64 0)).setCell ⟨w.heap.size, 1, none⟩ (.int .i64 0)).setCell ⟨w.heap.size, 2, none⟩ (.slice none 0 0)).setCell ⟨w.heap.size, 3, none⟩ (.slice none 0 0)) = wz) := Lib.hid hwz
      clear hwz hF hN 
      go_wp2_with fail
      rw [hwz'.out]
      obtain ⟨r0, r1, r2, r3⟩ := hFz.out
      clear g0 g1 g2 g3 z0 p1 q1 p2 q2 p3 q3
      refine bodyPost_ret (v := .tuple #[.agg #[.int .i64 0, .int .i64 0, .slice none 0 0, .slice none 0 0], .int .i64 3]) (by simp [results, Tryz.results8, go_sem, r0, r1, r2, r3]) rfl ?_
      exact DocE.no hD.out hNz.out
     ·have d5 : decide ((99999999 : Int) < (n1 : Int)) = false := decide_eq_false (by omega)
      by_cases hb2 : 99999999 < n2
      ·have d6 : decide ((99999999 : Int) < (n2 : Int)) = true := decide_eq_true (by omega)
       have hD := Lib.hid (hnum.out (.inr (.inr hb2)))
       have hF := hres.out.new hu5.out
       obtain ⟨g0, g1, g2, g3⟩ := hF.cells
       have z0 := hF.frozen 0
       obtain ⟨⟨p1, q1⟩, ⟨p2, q2⟩, ⟨p3, q3⟩⟩ := hF.roads ⟨.int .i64 0, .int .i64 0, .slice none 0 0, .slice none 0 0⟩
       have hN := hN0.out.trans hu5.out
       obtain ⟨wz, hwz⟩ : ∃ wz, ((((w5.setCell ⟨w.heap.size, 0, none⟩ (.int .i64 0)).setCell ⟨w.heap.size, 1, none⟩ (.int .i64 0)).setCell ⟨w.heap.size, 2, none⟩ (.slice none 0 0)).setCell ⟨w.heap.size, 3, none⟩ (.slice none 0 0)) = wz := ⟨_, rfl⟩
       have hFz := (hF.setAll ⟨.int .i64 0, .int .i64 0, .slice none 0 0, .slice none 0 0⟩).cells
       unfold setQuad at hFz
       simp only at hFz
       rw [hwz] at hFz
       replace hFz := Lib.hid hFz
       have hNz : Hid (New0 w wz) := Lib.hid (by rw [<- hwz]; exact upon_setQuad hN (.inr (Nat.le_refl _)) ⟨.int .i64 0, .int .i64 0, .slice none 0 0, .slice none 0 0⟩)
       have hwz' : Hid (((((w5.setCell ⟨w.heap.size, 0, none⟩ (.int .i64 0)).setCell ⟨w.heap.size, 1, none⟩ (.int .i64 0)).setCell ⟨w.heap.size, 2, none⟩ (.slice none 0 0)).setCell ⟨w.heap.size, 3, none⟩ (.slice none 0 0)) = wz) := Lib.hid hwz
       clear hwz hF hN 
       go_wp2_with fail
       rw [hwz'.out]
       obtain ⟨r0, r1, r2, r3⟩ := hFz.out
       clear g0 g1 g2 g3 z0 p1 q1 p2 q2 p3 q3
       refine bodyPost_ret (v := .tuple #[.agg #[.int .i64 0, .int .i64 0, .slice none 0 0, .slice none 0 0], .int .i64 3]) (by simp [results, Tryz.results8, go_sem, r0, r1, r2, r3]) rfl ?_
       exact DocE.no hD.out hNz.out
      ·have d6 : decide ((99999999 : Int) < (n2 : Int)) = false := decide_eq_false (by omega)
       have i1 : IntKind.i64.wrap (n1 : Int) = (n1 : Int) := by rw [IntKind.wrap_i64]; omega
       have i2 : IntKind.i64.wrap (n2 : Int) = (n2 : Int) := by rw [IntKind.wrap_i64]; omega
       have i3 : IntKind.i64.wrap ((fs.length : Int) - 1) = (fs.length : Int) - 1 := by rw [IntKind.wrap_i64]; omega
       obtain ⟨gb, hgb⟩ : ∃ gb, w5.heap.size = gb := ⟨_, rfl⟩
       obtain ⟨wb, hwb⟩ : ∃ wb, w5.alloc (.cells #[.int .i64 (n1 : Int), .int .i64 (n2 : Int), .slice none 0 0, .slice none 0 0] 31 (0, 0)) = wb := ⟨_, rfl⟩
       have hq : Hid (Quad 31 gb ⟨.int .i64 (n1 : Int), .int .i64 (n2 : Int), .slice none 0 0, .slice none 0 0⟩ wb) := Lib.hid (by rw [<- hwb, <- hgb]; exact cell_new w5 _)
       have hsb : Hid (wb.heap.size = gb + 1) := Lib.hid (by rw [<- hwb, <- hgb]; simp)
       have hub : Hid (New0 w2 wb) := Lib.hid (by rw [<- hwb]; exact hu25.out.alloc _)
       have hge : Hid (w2.heap.size <= gb) := Lib.hid (by have := hu25.out.size; omega)
       have hrf := Lib.hid (hbeg.out rfl)
       have hfi : Hid (FineR [] [] 0) := Lib.hid ⟨fun r h => (by cases h), fun r h => (by cases h), Nat.le_refl _, Nat.le_refl _⟩
       replace hgb := Lib.hid hgb
       replace hwb := Lib.hid hwb
       replace hb1 := Lib.hid hb1
       replace hb2 := Lib.hid hb2
       clear hnum hbeg
       go_wp2_with fail
       rw [hgb.out, hwb.out]
       clear hgb hwb c0 c1 f0 f1 d2 d5 d6 i1 i2
       go_loopw [11] (fun ov wr => ∃ (k : Nat) (u d : Value) (rs : List RB) (l : List Row) (ds : List Hd.RC) (ms : List Rc.R), ov = .int .i64 ((k + 1 : Nat) : Int) /\ k + 2 <= fs.length /\ Hid (Rf s fs ⟨n1, n2, l, ms⟩ k) /\ Hid (FineR l ms k) /\
        Hid (BOwn 79 wb.heap.size wr u rs l d ds ms) /\ Hid (Quad 31 gb ⟨.int .i64 (n1 : Int), .int .i64 (n2 : Int), u, d⟩ wr) /\ Hid (Upon (fun x => x = gb) wb wr)) (fun ov _ => fs.length - (intOf ov).toNat)
       case atStart => exact ⟨0, _, _, [], [], [], [], rfl, by omega, hrf, hfi, Lib.hid (BOwn.start _ _ _), hq, Lib.hid (Upon.refl _ _)⟩
       case round =>
        clear hq hrf hfi
        obtain ⟨k, u, d, rs, l, ds, ms, rfl, hkk, hrf, hfi, hbo, hq, hur⟩ := hrel
        have hwr : Hid (New0 w2 wr) := Lib.hid (hub.out.trans' hur.out (fun i hi e => by have := hge.out; omega))
        obtain ⟨Au, cu, rfl, -, -⟩ := hbo.out.row.view.shape
        obtain ⟨Ad, cd, rfl, -, -⟩ := hbo.out.del.view.shape
        have hfw := hfi.out.few
        have hl1 := hbo.out.len
        have hl2 := hbo.out.len2
        by_cases hlt : k + 2 < fs.length
        ·have dl : decide (((k + 1 : Nat) : Int) < (fs.length : Int) - 1) = true := decide_eq_true (by omega)
         obtain ⟨q0, q1⟩ := hcl.out (k + 1) (by omega)
         replace q0 := Lb.New0.cells hwr.out q0
         replace q1 := Lb.New0.cells hwr.out q1
         obtain ⟨⟨kd, dt⟩, hfk⟩ : ∃ x, fs[k + 1] = x := ⟨_, rfl⟩
         have hft := hfew.out _ (List.getElem_mem (show k + 1 < fs.length by omega))
         rw [hfk] at q0 q1 hft
         simp only at q0 q1 hft
         replace hfk := Lib.hid hfk
         have hk1 : k + 1 < fs.length := by omega
         by_cases hkd : kd = 3
         ·subst hkd
          have HR := Lib.hid (refrow_any wr dt hft.2)
          clear hl1 hl2
          go_wp2_with fail
          refine HR.out.mono ?_
          rintro e' w6 ⟨⟨sa, sn, sc⟩, ⟨pa, pn, pc⟩, rt, ok, rfl, hu6, hno, hyes⟩
          cases ok with
          | false =>
           have hD := Lib.hid (hrf.out.row_no hlt (by rw [hfk.out]) (by rw [hfk.out]; exact hno rfl))
           have hn6 := Lib.hid ((hu2.out.trans hwr.out).trans (hu6.alloc (.cells #[.slice sa sn sc, .int .i64 rt, .slice pa pn pc] 79 (0, 0))))
           clear hno hyes HR hrf hfi hbo hq hur q0 q1 hu6
           have hF := hres.out.new hn6.out
           obtain ⟨g0, g1, g2, g3⟩ := hF.cells
           have z0 := hF.frozen 0
           obtain ⟨⟨p1, q1⟩, ⟨p2, q2⟩, ⟨p3, q3⟩⟩ := hF.roads ⟨.int .i64 0, .int .i64 0, .slice none 0 0, .slice none 0 0⟩
           have hN := hN0.out.trans hn6.out
           obtain ⟨wz, hwz⟩ : ∃ wz, (((((w6.alloc (.cells #[.slice sa sn sc, .int .i64 rt, .slice pa pn pc] 79 (0, 0))).setCell ⟨w.heap.size, 0, none⟩ (.int .i64 0)).setCell ⟨w.heap.size, 1, none⟩ (.int .i64 0)).setCell ⟨w.heap.size, 2, none⟩ (.slice none 0 0)).setCell ⟨w.heap.size, 3, none⟩ (.slice none 0 0)) = wz := ⟨_, rfl⟩
           have hFz := (hF.setAll ⟨.int .i64 0, .int .i64 0, .slice none 0 0, .slice none 0 0⟩).cells
           unfold setQuad at hFz
           simp only at hFz
           rw [hwz] at hFz
           replace hFz := Lib.hid hFz
           have hNz : Hid (New0 w wz) := Lib.hid (by rw [<- hwz]; exact upon_setQuad hN (.inr (Nat.le_refl _)) ⟨.int .i64 0, .int .i64 0, .slice none 0 0, .slice none 0 0⟩)
           have hwz' : Hid ((((((w6.alloc (.cells #[.slice sa sn sc, .int .i64 rt, .slice pa pn pc] 79 (0, 0))).setCell ⟨w.heap.size, 0, none⟩ (.int .i64 0)).setCell ⟨w.heap.size, 1, none⟩ (.int .i64 0)).setCell ⟨w.heap.size, 2, none⟩ (.slice none 0 0)).setCell ⟨w.heap.size, 3, none⟩ (.slice none 0 0)) = wz) := Lib.hid hwz
           clear hwz hF hN 
           go_wp2_with fail
           rw [hwz'.out]
           obtain ⟨r0, r1, r2, r3⟩ := hFz.out
           clear g0 g1 g2 g3 z0 p1 q1 p2 q2 p3 q3
           refine bodyPost_ret (v := .tuple #[.agg #[.int .i64 0, .int .i64 0, .slice none 0 0, .slice none 0 0], .int .i64 3]) (by simp [results, Tryz.results8, go_sem, r0, r1, r2, r3]) rfl ?_
           exact DocE.no hD.out hNz.out
          | true =>
           obtain ⟨r, hrt, hin, hir, hsm, hl32, hpl, hone⟩ := hyes rfl
           have hrf' := Lib.hid (hrf.out.row hlt (by rw [hfk.out]) (by rw [hfk.out]; exact hone))
           have hfi' := Lib.hid (hfi.out.addRow hir hsm hl32 (by rw [Frm.size_list] at hpl; omega))
           have n1' := (Upon.refl (fun _ => False) w6).alloc (.cells #[.slice sa sn sc, .int .i64 rt, .slice pa pn pc] 79 (0, 0))
           have n2' := n1'.alloc (.cells #[.slice sa sn sc, .int .i64 rt, .slice pa pn pc] 79 (0, 0))
           have hb6 := hbo.out.new hu6
           have hb8 := Lib.hid (hb6.new n2')
           have hfr := Lib.hid (BOwn.fresh (w' := w6) hbo.out (by have := hur.out.size; omega))
           have hin8 : Hid (innB.rel ((w6.alloc (.cells #[.slice sa sn sc, .int .i64 rt, .slice pa pn pc] 79 (0, 0))).alloc (.cells #[.slice sa sn sc, .int .i64 rt, .slice pa pn pc] 79 (0, 0))) (fun x => Lb.Nw wr x /\ x < w6.heap.size) ⟨⟨sa, sn, sc⟩, rt, ⟨pa, pn, pc⟩⟩ r) := Lib.hid (innB.upon (innB.mono hin fun b hb1 hb2 => ⟨hb2, hb1⟩) n2' (fun _ _ f => f))
           have hM2 := Lib.hid hb8.out.row
           have hV2 : Hid (Rw.Mine layB 79 ((w6.alloc (.cells #[.slice sa sn sc, .int .i64 rt, .slice pa pn pc] 79 (0, 0))).alloc (.cells #[.slice sa sn sc, .int .i64 rt, .slice pa pn pc] 79 (0, 0))) (.slice (some ⟨w6.heap.size + 1, 0, none⟩) 1 1) [⟨⟨sa, sn, sc⟩, rt, ⟨pa, pn, pc⟩⟩]) := Lib.hid (by
            have := bmine_one 79 (w6.alloc (.cells #[.slice sa sn sc, .int .i64 rt, .slice pa pn pc] 79 (0, 0))) ⟨⟨sa, sn, sc⟩, rt, ⟨pa, pn, pc⟩⟩
            rw [show (w6.alloc (.cells #[.slice sa sn sc, .int .i64 rt, .slice pa pn pc] 79 (0, 0))).heap.size = w6.heap.size + 1 by simp] at this
            exact this)
           have hq6 := hq.out.new hu6
           obtain ⟨b0, b1, b2, b3⟩ := (hq6.new n1').cells
           obtain ⟨m0, m1, m2⟩ := box3 w6 (.slice sa sn sc) rt (.slice pa pn pc) 79
           have hq8 := Lib.hid (hq6.new n2')
           have hur8 := Lib.hid (hur.out.trans' (hu6.trans n2') (fun i _ f => f.elim))
           have hsz8 : Hid (wb.heap.size <= ((w6.alloc (.cells #[.slice sa sn sc, .int .i64 rt, .slice pa pn pc] 79 (0, 0))).alloc (.cells #[.slice sa sn sc, .int .i64 rt, .slice pa pn pc] 79 (0, 0))).heap.size /\ w6.heap.size <= ((w6.alloc (.cells #[.slice sa sn sc, .int .i64 rt, .slice pa pn pc] 79 (0, 0))).alloc (.cells #[.slice sa sn sc, .int .i64 rt, .slice pa pn pc] 79 (0, 0))).heap.size) := Lib.hid ⟨hur8.out.size, n2'.size⟩
           have hrs : rs.length <= 5000 := by have := hbo.out.len; omega
           replace hrt := Lib.hid hrt
           clear hno hyes HR hrf hfi hbo hq hur q0 q1 hu6 n1' n2' hb6 hq6 hin hone hpl
           go_wp2_with (at_builtin; refine Rw.wpList_append typR rfl _ _ rfl _ _ rs [(⟨⟨sa, sn, sc⟩, rt, ⟨pa, pn, pc⟩⟩ : RB)] _ rfl rfl hM2.out hV2.out.view (by rw [List.length_singleton]; omega) (by rw [List.length_singleton]; omega) ?_)
           intro v9 w9 hown hgr hbl
           have hbo9 := BOwn.addRow hb8.out ne_rr hsz8.out.1 hin8.out (fun x hx => by
            have := hfr.out x hx
            exact ⟨Nat.lt_of_lt_of_le this.1 hsz8.out.2, this.2⟩) hown hgr (hbl.imp id fun h => h.trans (by simp))
           have hlo9 : ∀ g, (Value.slice Au rs.length cu).ownBlock = some g -> gb ≠ g := fun g hg e => by
            have := hb8.out.base g hg
            have := hsb.out
            omega
           have hq9 := hq8.out.grown hgr (fun e => hlo9 gb e.symm rfl)
           have hur9 := Upon.grown hur8.out hgr (fun g hg => .inr (hb8.out.base g hg))
           obtain ⟨Av, cv, rfl, -, -⟩ := Rw.View.shape (show Rw.Mine layB 79 w9 v9 _ from hown).view
           rw [List.length_append, List.length_singleton] at hbo9 hown
           obtain ⟨e0, e1, e2, e3'⟩ := hq9.cells
           have ef := hq9.frozen 2
           have hq10 := Lib.hid (hq9.set2 (.slice Av (rs.length + 1) cv))
           have us : Upon (fun x => x = gb) w9 (w9.setCell ⟨gb, 2, none⟩ (.slice Av (rs.length + 1) cv)) := Upon.setCell (S := fun x => x = gb) (p := ⟨gb, 2, none⟩) (Upon.refl _ w9) (.inl rfl) _
           have hbo10 := Lib.hid (hbo9.step us (fun b hb e => by have := hsb.out; omega))
           have hur10 := Lib.hid (hur9.trans us)
           clear hb8 hfr hin8 hM2 hV2 hq8 hur8 hsz8 hown hgr hbl hbo9 hlo9 hq9 hur9 us m0 m1 m2 b0 b1 b2 b3
           go_wp2_with fail
           go_roundw
           case rel => exact ⟨k + 1, _, _, _, _, _, _, by go_num, by omega, hrf', hfi', hbo10, hq10, hur10⟩
           case measure => simp [intOf]; omega
         ·have dk3 : ((kd : Int) == 3) = false := by rw [beq_eq_false_iff_ne]; omega
          have dk3' : decide ((kd : Int) = 3) = false := decide_eq_false (by omega)
          obtain ⟨⟨r, x6⟩, hde⟩ : ∃ y, Rc.dec dt.data.toList = y := ⟨_, rfl⟩
          have HR := HDN wr dt hft.2
          rw [hde] at HR
          replace HR := Lib.hid HR
          replace hde := Lib.hid hde
          clear hl1 hl2
          go_wp2_with fail
          refine HR.out.mono ?_
          rintro e' w6 ⟨v6, rfl, hv6, hrg, hu6⟩
          obtain ⟨A1, c1, A2, c2, rfl, hs6, hm6⟩ := hv6.shape
          obtain ⟨rk, hrk⟩ : ∃ x, r.kind = x := ⟨_, rfl⟩
          obtain ⟨rf, hrfr⟩ : ∃ x, r.frm = x := ⟨_, rfl⟩
          obtain ⟨rt, hrt⟩ : ∃ x, r.til = x := ⟨_, rfl⟩
          obtain ⟨ns, hns⟩ : ∃ x, r.smp.length = x := ⟨_, rfl⟩
          obtain ⟨nm, hnm⟩ : ∃ x, r.ms.length = x := ⟨_, rfl⟩
          have hin : Hd.innRC.rel w6 (Lb.Nw wr) ⟨rk, ⟨A1, ns, c1⟩, ⟨A2, nm, c2⟩, rf, rt⟩ r := by
           rw [<- hrk, <- hrfr, <- hrt, <- hns, <- hnm]
           exact ⟨rfl, rfl, rfl, hs6, hm6⟩
          rw [hrk, hrfr, hrt, hns, hnm]
          clear hv6 hs6 hm6 hrk hrfr hrt hns hnm
          by_cases hx6 : x6 = 0
          ·subst hx6
           have hrf' := Lib.hid (hrf.out.del hlt (by rw [hfk.out]; exact hkd) (by rw [hfk.out]; exact hde.out))
           have hfi' := Lib.hid (hfi.out.addDel hrg (rbnd_of hde.out))
           have n1' := (Upon.refl (fun _ => False) w6).alloc (.cells #[.int .i64 rk, .slice A1 ns c1, .slice A2 nm c2, .int .i64 rf, .int .i64 rt] 47 (0, 0))
           have n2' := n1'.alloc (.cells #[.int .i64 rk, .slice A1 ns c1, .slice A2 nm c2, .int .i64 rf, .int .i64 rt] 47 (0, 0))
           have hb6 := hbo.out.new hu6
           have hb8 := Lib.hid (hb6.new n2')
           have hfr := Lib.hid (BOwn.fresh (w' := w6) hbo.out (by have := hur.out.size; omega))
           have hin8 : Hid (Hd.innRC.rel ((w6.alloc (.cells #[.int .i64 rk, .slice A1 ns c1, .slice A2 nm c2, .int .i64 rf, .int .i64 rt] 47 (0, 0))).alloc (.cells #[.int .i64 rk, .slice A1 ns c1, .slice A2 nm c2, .int .i64 rf, .int .i64 rt] 47 (0, 0))) (fun x => Lb.Nw wr x /\ x < w6.heap.size) ⟨rk, ⟨A1, ns, c1⟩, ⟨A2, nm, c2⟩, rf, rt⟩ r) := Lib.hid (Hd.innRC.upon (Hd.innRC.mono hin fun b hb1 hb2 => ⟨hb2, hb1⟩) n2' (fun _ _ f => f))
           have hM2 := Lib.hid hb8.out.del
           have hV2 : Hid (Rw.Mine Hd.layRC 47 ((w6.alloc (.cells #[.int .i64 rk, .slice A1 ns c1, .slice A2 nm c2, .int .i64 rf, .int .i64 rt] 47 (0, 0))).alloc (.cells #[.int .i64 rk, .slice A1 ns c1, .slice A2 nm c2, .int .i64 rf, .int .i64 rt] 47 (0, 0))) (.slice (some ⟨w6.heap.size + 1, 0, none⟩) 1 1) [⟨rk, ⟨A1, ns, c1⟩, ⟨A2, nm, c2⟩, rf, rt⟩]) := Lib.hid (by
            have := rmine_one (w6.alloc (.cells #[.int .i64 rk, .slice A1 ns c1, .slice A2 nm c2, .int .i64 rf, .int .i64 rt] 47 (0, 0))) ⟨rk, ⟨A1, ns, c1⟩, ⟨A2, nm, c2⟩, rf, rt⟩
            rw [show (w6.alloc (.cells #[.int .i64 rk, .slice A1 ns c1, .slice A2 nm c2, .int .i64 rf, .int .i64 rt] 47 (0, 0))).heap.size = w6.heap.size + 1 by simp] at this
            exact this)
           have hq6 := hq.out.new hu6
           obtain ⟨b0, b1, b2, b3⟩ := (hq6.new n1').cells
           obtain ⟨m0, m1, m2, m3, m4⟩ := Rc.box5 w6 rk (.slice A1 ns c1) (.slice A2 nm c2) rf rt
           have hq8 := Lib.hid (hq6.new n2')
           have hur8 := Lib.hid (hur.out.trans' (hu6.trans n2') (fun i _ f => f.elim))
           have hsz8 : Hid (wb.heap.size <= ((w6.alloc (.cells #[.int .i64 rk, .slice A1 ns c1, .slice A2 nm c2, .int .i64 rf, .int .i64 rt] 47 (0, 0))).alloc (.cells #[.int .i64 rk, .slice A1 ns c1, .slice A2 nm c2, .int .i64 rf, .int .i64 rt] 47 (0, 0))).heap.size /\ w6.heap.size <= ((w6.alloc (.cells #[.int .i64 rk, .slice A1 ns c1, .slice A2 nm c2, .int .i64 rf, .int .i64 rt] 47 (0, 0))).alloc (.cells #[.int .i64 rk, .slice A1 ns c1, .slice A2 nm c2, .int .i64 rf, .int .i64 rt] 47 (0, 0))).heap.size) := Lib.hid ⟨hur8.out.size, n2'.size⟩
           have hds : ds.length <= 5000 := by have := hbo.out.len2; omega
           clear HR hrf hfi hbo hq hur q0 q1 hu6 n1' n2' hb6 hq6 hin
           go_wp2_with (at_builtin; refine Rw.wpList_append typRC rfl _ _ rfl _ _ ds [(⟨rk, ⟨A1, ns, c1⟩, ⟨A2, nm, c2⟩, rf, rt⟩ : Hd.RC)] _ rfl rfl hM2.out hV2.out.view (by rw [List.length_singleton]; omega) (by rw [List.length_singleton]; omega) ?_)
           intro v9 w9 hown hgr hbl
           have hbo9 := BOwn.addDel hb8.out ne_rr hsz8.out.1 hin8.out (fun x hx => by
            have := hfr.out x hx
            exact ⟨Nat.lt_of_lt_of_le this.1 hsz8.out.2, this.2⟩) hown hgr (hbl.imp id fun h => h.trans (by simp))
           have hlo9 : ∀ g, (Value.slice Ad ds.length cd).ownBlock = some g -> gb ≠ g := fun g hg e => by
            have := hb8.out.base2 g hg
            have := hsb.out
            omega
           have hq9 := hq8.out.grown hgr (fun e => hlo9 gb e.symm rfl)
           have hur9 := Upon.grown hur8.out hgr (fun g hg => .inr (hb8.out.base2 g hg))
           obtain ⟨Av, cv, rfl, -, -⟩ := Rw.View.shape (show Rw.Mine Hd.layRC 47 w9 v9 _ from hown).view
           rw [List.length_append, List.length_singleton] at hbo9 hown
           obtain ⟨e0, e1, e2, e3'⟩ := hq9.cells
           have ef := hq9.frozen 3
           have hq10 := Lib.hid (hq9.set3 (.slice Av (ds.length + 1) cv))
           have us : Upon (fun x => x = gb) w9 (w9.setCell ⟨gb, 3, none⟩ (.slice Av (ds.length + 1) cv)) := Upon.setCell (S := fun x => x = gb) (p := ⟨gb, 3, none⟩) (Upon.refl _ w9) (.inl rfl) _
           have hbo10 := Lib.hid (hbo9.step us (fun b hb e => by have := hsb.out; omega))
           have hur10 := Lib.hid (hur9.trans us)
           clear hb8 hfr hin8 hM2 hV2 hq8 hur8 hsz8 hown hgr hbl hbo9 hlo9 hq9 hur9 us m0 m1 m2 m3 m4 b0 b1 b2 b3
           go_wp2_with fail
           go_roundw
           case rel => exact ⟨k + 1, _, _, _, _, _, _, by go_num, by omega, hrf', hfi', hbo10, hq10, hur10⟩
           case measure => simp [intOf]; omega
          ·have hD := Lib.hid (hrf.out.del_no hlt (by rw [hfk.out]; exact hkd) (by rw [hfk.out]; simp only; rw [hde.out]; exact hx6))
           have dx : ((x6 : Int) != 0) = true := by rw [bne_iff_ne]; omega
           have hn6 := Lib.hid ((hu2.out.trans hwr.out).trans (hu6.alloc (.cells #[.int .i64 rk, .slice A1 ns c1, .slice A2 nm c2, .int .i64 rf, .int .i64 rt] 47 (0, 0))))
           clear HR hrf hfi hbo hq hur q0 q1 hu6 hin
           have hF := hres.out.new hn6.out
           obtain ⟨g0, g1, g2, g3⟩ := hF.cells
           have z0 := hF.frozen 0
           obtain ⟨⟨p1, q1⟩, ⟨p2, q2⟩, ⟨p3, q3⟩⟩ := hF.roads ⟨.int .i64 0, .int .i64 0, .slice none 0 0, .slice none 0 0⟩
           have hN := hN0.out.trans hn6.out
           obtain ⟨wz, hwz⟩ : ∃ wz, (((((w6.alloc (.cells #[.int .i64 rk, .slice A1 ns c1, .slice A2 nm c2, .int .i64 rf, .int .i64 rt] 47 (0, 0))).setCell ⟨w.heap.size, 0, none⟩ (.int .i64 0)).setCell ⟨w.heap.size, 1, none⟩ (.int .i64 0)).setCell ⟨w.heap.size, 2, none⟩ (.slice none 0 0)).setCell ⟨w.heap.size, 3, none⟩ (.slice none 0 0)) = wz := ⟨_, rfl⟩
           have hFz := (hF.setAll ⟨.int .i64 0, .int .i64 0, .slice none 0 0, .slice none 0 0⟩).cells
           unfold setQuad at hFz
           simp only at hFz
           rw [hwz] at hFz
           replace hFz := Lib.hid hFz
           have hNz : Hid (New0 w wz) := Lib.hid (by rw [<- hwz]; exact upon_setQuad hN (.inr (Nat.le_refl _)) ⟨.int .i64 0, .int .i64 0, .slice none 0 0, .slice none 0 0⟩)
           have hwz' : Hid ((((((w6.alloc (.cells #[.int .i64 rk, .slice A1 ns c1, .slice A2 nm c2, .int .i64 rf, .int .i64 rt] 47 (0, 0))).setCell ⟨w.heap.size, 0, none⟩ (.int .i64 0)).setCell ⟨w.heap.size, 1, none⟩ (.int .i64 0)).setCell ⟨w.heap.size, 2, none⟩ (.slice none 0 0)).setCell ⟨w.heap.size, 3, none⟩ (.slice none 0 0)) = wz) := Lib.hid hwz
           clear hwz hF hN 
           go_wp2_with fail
           rw [hwz'.out]
           obtain ⟨r0, r1, r2, r3⟩ := hFz.out
           clear g0 g1 g2 g3 z0 p1 q1 p2 q2 p3 q3
           refine bodyPost_ret (v := .tuple #[.agg #[.int .i64 0, .int .i64 0, .slice none 0 0, .slice none 0 0], .int .i64 3]) (by simp [results, Tryz.results8, go_sem, r0, r1, r2, r3]) rfl ?_
           exact DocE.no hD.out hNz.out
        ·have hke : k + 2 = fs.length := by omega
         have dl : decide (((k + 1 : Nat) : Int) < (fs.length : Int) - 1) = false := decide_eq_false (by omega)
         have hvw := hbo.out.view
         have hbv : BView wr (fun b => wb.heap.size <= b) (.agg #[.int .i64 (n1 : Int), .int .i64 (n2 : Int), .slice Au rs.length cu, .slice Ad ds.length cd]) ⟨n1, n2, l, ms⟩ := ⟨⟨Au, rs.length, cu⟩, ⟨Ad, ds.length, cd⟩, rfl, hvw.1, hvw.2⟩
         obtain ⟨hbd, hfb, hir⟩ := fine_bnd hfi.out (Nat.le_of_not_lt hb1.out) (Nat.le_of_not_lt hb2.out) (by omega)
         have HE := refenc_any wr _ _ _ hbv hbd hfb
         obtain ⟨⟨el, ee⟩, hE⟩ : ∃ x, enc ⟨n1, n2, l, ms⟩ = x := ⟨_, rfl⟩
         obtain ⟨es, hes⟩ : ∃ es, bts el = es := ⟨_, rfl⟩
         have hER : encR ⟨n1, n2, l, ms⟩ = .returned (.tuple #[.string es, .int .i64 (ee : Int)]) := by unfold encR; rw [hE, <- hes]
         rw [hER] at HE
         obtain ⟨b0, b1, b2, b3⟩ := hq.out.cells
         replace HE := Lib.hid HE
         replace hbv := Lib.hid hbv
         replace hbd := Lib.hid hbd
         replace hir := Lib.hid hir
         replace hE := Lib.hid hE
         clear hl1 hl2 hvw hfb hER hbo
         go_wp2_with fail
         refine HE.out.mono ?_
         rintro e' w9 ⟨rfl, hu9⟩
         have hn9 := Lib.hid ((hu2.out.trans hwr.out).trans hu9)
         have hbv9 := Lib.hid (hbv.out.new hu9)
         obtain ⟨b0, b1, b2, b3⟩ := (hq.out.new hu9).cells
         have hlo : Hid (w.heap.size < wb.heap.size) := Lib.hid (by have := hsz.out; have := hsb.out; have := hge.out; have := hu2.out.size; omega)
         clear HE hbv hq hur hfi hu9
         by_cases hee : ee = 0
         ·subst hee
          by_cases hss : es = s
          ·have dq : (es.toList == s.toList) = true := by rw [hss]; exact beq_self_eq_true _
           have hD : Hid (Dec s.data.toList ⟨n1, n2, l, ms⟩ 0) := Lib.hid (hrf.out.yes hir.out (by rw [hE.out, <- hss, <- hes, bts_list]))
           have hF := hres.out.new hn9.out
           obtain ⟨g0, g1, g2, g3⟩ := hF.cells
           have z0 := hF.frozen 0
           obtain ⟨⟨p1, q1⟩, ⟨p2, q2⟩, ⟨p3, q3⟩⟩ := hF.roads ⟨.int .i64 (n1 : Int), .int .i64 (n2 : Int), .slice Au rs.length cu, .slice Ad ds.length cd⟩
           have hN := hN0.out.trans hn9.out
           obtain ⟨wz, hwz⟩ : ∃ wz, ((((w9.setCell ⟨w.heap.size, 0, none⟩ (.int .i64 (n1 : Int))).setCell ⟨w.heap.size, 1, none⟩ (.int .i64 (n2 : Int))).setCell ⟨w.heap.size, 2, none⟩ (.slice Au rs.length cu)).setCell ⟨w.heap.size, 3, none⟩ (.slice Ad ds.length cd)) = wz := ⟨_, rfl⟩
           have hFz := (hF.setAll ⟨.int .i64 (n1 : Int), .int .i64 (n2 : Int), .slice Au rs.length cu, .slice Ad ds.length cd⟩).cells
           unfold setQuad at hFz
           simp only at hFz
           rw [hwz] at hFz
           replace hFz := Lib.hid hFz
           have hNz : Hid (New0 w wz) := Lib.hid (by rw [<- hwz]; exact upon_setQuad hN (.inr (Nat.le_refl _)) ⟨.int .i64 (n1 : Int), .int .i64 (n2 : Int), .slice Au rs.length cu, .slice Ad ds.length cd⟩)
           have hUz : Upon (fun x => x = w.heap.size) w9 wz := by rw [<- hwz]; exact upon_setQuad (U := fun x => x = w.heap.size) (Upon.refl _ _) (.inl rfl) ⟨.int .i64 (n1 : Int), .int .i64 (n2 : Int), .slice Au rs.length cu, .slice Ad ds.length cd⟩
           have hVz : Hid (BView wz Rw.All (.agg #[.int .i64 (n1 : Int), .int .i64 (n2 : Int), .slice Au rs.length cu, .slice Ad ds.length cd]) ⟨n1, n2, l, ms⟩) := Lib.hid ((hbv9.out.upon hUz (fun b hb e => by have := hlo.out; omega)).mono fun _ _ _ => trivial)
           have hwz' : Hid (((((w9.setCell ⟨w.heap.size, 0, none⟩ (.int .i64 (n1 : Int))).setCell ⟨w.heap.size, 1, none⟩ (.int .i64 (n2 : Int))).setCell ⟨w.heap.size, 2, none⟩ (.slice Au rs.length cu)).setCell ⟨w.heap.size, 3, none⟩ (.slice Ad ds.length cd)) = wz) := Lib.hid hwz
           clear hwz hF hN hUz hes hrf
           go_wp2_with fail
           rw [hwz'.out]
           obtain ⟨r0, r1, r2, r3⟩ := hFz.out
           clear g0 g1 g2 g3 z0 p1 q1 p2 q2 p3 q3 b0 b1 b2 b3
           refine bodyPost_ret (v := .tuple #[(.agg #[.int .i64 (n1 : Int), .int .i64 (n2 : Int), .slice Au rs.length cu, .slice Ad ds.length cd]), .int .i64 0]) (by simp [results, Tryz.results8, go_sem, r0, r1, r2, r3]) rfl ?_
           exact ⟨_, _, 0, rfl, hD.out, hVz.out, hbd.out, hNz.out⟩
          ·have dq : (es.toList == s.toList) = false := beq_eq_false_iff_ne.2 (fun h => hss (by rw [ByteArray.toList_eq, ByteArray.toList_eq] at h; exact ByteArray.ext (Array.toList_inj.1 h)))
           have hD := Lib.hid (hrf.out.not hke (fun h => hss (by rw [hE.out] at h; rw [<- hes, (Prod.mk.inj h).1]; exact (bts_eq rfl).symm)))
           clear hes hrf
           have hF := hres.out.new hn9.out
           obtain ⟨g0, g1, g2, g3⟩ := hF.cells
           have z0 := hF.frozen 0
           obtain ⟨⟨p1, q1⟩, ⟨p2, q2⟩, ⟨p3, q3⟩⟩ := hF.roads ⟨.int .i64 0, .int .i64 0, .slice none 0 0, .slice none 0 0⟩
           have hN := hN0.out.trans hn9.out
           obtain ⟨wz, hwz⟩ : ∃ wz, ((((w9.setCell ⟨w.heap.size, 0, none⟩ (.int .i64 0)).setCell ⟨w.heap.size, 1, none⟩ (.int .i64 0)).setCell ⟨w.heap.size, 2, none⟩ (.slice none 0 0)).setCell ⟨w.heap.size, 3, none⟩ (.slice none 0 0)) = wz := ⟨_, rfl⟩
           have hFz := (hF.setAll ⟨.int .i64 0, .int .i64 0, .slice none 0 0, .slice none 0 0⟩).cells
           unfold setQuad at hFz
           simp only at hFz
           rw [hwz] at hFz
           replace hFz := Lib.hid hFz
           have hNz : Hid (New0 w wz) := Lib.hid (by rw [<- hwz]; exact upon_setQuad hN (.inr (Nat.le_refl _)) ⟨.int .i64 0, .int .i64 0, .slice none 0 0, .slice none 0 0⟩)
           have hwz' : Hid (((((w9.setCell ⟨w.heap.size, 0, none⟩ (.int .i64 0)).setCell ⟨w.heap.size, 1, none⟩ (.int .i64 0)).setCell ⟨w.heap.size, 2, none⟩ (.slice none 0 0)).setCell ⟨w.heap.size, 3, none⟩ (.slice none 0 0)) = wz) := Lib.hid hwz
           clear hwz hF hN 
           go_wp2_with fail
           rw [hwz'.out]
           obtain ⟨r0, r1, r2, r3⟩ := hFz.out
           clear g0 g1 g2 g3 z0 p1 q1 p2 q2 p3 q3
           refine bodyPost_ret (v := .tuple #[.agg #[.int .i64 0, .int .i64 0, .slice none 0 0, .slice none 0 0], .int .i64 3]) (by simp [results, Tryz.results8, go_sem, r0, r1, r2, r3]) rfl ?_
           exact DocE.no hD.out hNz.out
         ·have dx : ((ee : Int) != 0) = true := by rw [bne_iff_ne]; omega
          have hD := Lib.hid (hrf.out.not hke (fun h => hee (by rw [hE.out] at h; exact (Prod.mk.inj h).2)))
          clear hes hrf
          have hF := hres.out.new hn9.out
          obtain ⟨g0, g1, g2, g3⟩ := hF.cells
          have z0 := hF.frozen 0
          obtain ⟨⟨p1, q1⟩, ⟨p2, q2⟩, ⟨p3, q3⟩⟩ := hF.roads ⟨.int .i64 0, .int .i64 0, .slice none 0 0, .slice none 0 0⟩
          have hN := hN0.out.trans hn9.out
          obtain ⟨wz, hwz⟩ : ∃ wz, ((((w9.setCell ⟨w.heap.size, 0, none⟩ (.int .i64 0)).setCell ⟨w.heap.size, 1, none⟩ (.int .i64 0)).setCell ⟨w.heap.size, 2, none⟩ (.slice none 0 0)).setCell ⟨w.heap.size, 3, none⟩ (.slice none 0 0)) = wz := ⟨_, rfl⟩
          have hFz := (hF.setAll ⟨.int .i64 0, .int .i64 0, .slice none 0 0, .slice none 0 0⟩).cells
          unfold setQuad at hFz
          simp only at hFz
          rw [hwz] at hFz
          replace hFz := Lib.hid hFz
          have hNz : Hid (New0 w wz) := Lib.hid (by rw [<- hwz]; exact upon_setQuad hN (.inr (Nat.le_refl _)) ⟨.int .i64 0, .int .i64 0, .slice none 0 0, .slice none 0 0⟩)
          have hwz' : Hid (((((w9.setCell ⟨w.heap.size, 0, none⟩ (.int .i64 0)).setCell ⟨w.heap.size, 1, none⟩ (.int .i64 0)).setCell ⟨w.heap.size, 2, none⟩ (.slice none 0 0)).setCell ⟨w.heap.size, 3, none⟩ (.slice none 0 0)) = wz) := Lib.hid hwz
          clear hwz hF hN 
          go_wp2_with fail
          rw [hwz'.out]
          obtain ⟨r0, r1, r2, r3⟩ := hFz.out
          clear g0 g1 g2 g3 z0 p1 q1 p2 q2 p3 q3
          refine bodyPost_ret (v := .tuple #[.agg #[.int .i64 0, .int .i64 0, .slice none 0 0, .slice none 0 0], .int .i64 3]) (by simp [results, Tryz.results8, go_sem, r0, r1, r2, r3]) rfl ?_
          exact DocE.no hD.out hNz.out
    ·have dx : ((e4 : Int) != 0) = true := by rw [bne_iff_ne]; omega
     have hD := Lib.hid (hnum.out (.inl he4))
     have hF := hres.out.new hu5.out
     obtain ⟨g0, g1, g2, g3⟩ := hF.cells
     have z0 := hF.frozen 0
     obtain ⟨⟨p1, q1⟩, ⟨p2, q2⟩, ⟨p3, q3⟩⟩ := hF.roads ⟨.int .i64 0, .int .i64 0, .slice none 0 0, .slice none 0 0⟩
     have hN := hN0.out.trans hu5.out
     obtain ⟨wz, hwz⟩ : ∃ wz, ((((w5.setCell ⟨w.heap.size, 0, none⟩ (.int .i64 0)).setCell ⟨w.heap.size, 1, none⟩ (.int .i64 0)).setCell ⟨w.heap.size, 2, none⟩ (.slice none 0 0)).setCell ⟨w.heap.size, 3, none⟩ (.slice none 0 0)) = wz := ⟨_, rfl⟩
     have hFz := (hF.setAll ⟨.int .i64 0, .int .i64 0, .slice none 0 0, .slice none 0 0⟩).cells
     unfold setQuad at hFz
     simp only at hFz
     rw [hwz] at hFz
     replace hFz := Lib.hid hFz
     have hNz : Hid (New0 w wz) := Lib.hid (by rw [<- hwz]; exact upon_setQuad hN (.inr (Nat.le_refl _)) ⟨.int .i64 0, .int .i64 0, .slice none 0 0, .slice none 0 0⟩)
     have hwz' : Hid (((((w5.setCell ⟨w.heap.size, 0, none⟩ (.int .i64 0)).setCell ⟨w.heap.size, 1, none⟩ (.int .i64 0)).setCell ⟨w.heap.size, 2, none⟩ (.slice none 0 0)).setCell ⟨w.heap.size, 3, none⟩ (.slice none 0 0)) = wz) := Lib.hid hwz
     clear hwz hF hN 
     go_wp2_with fail
     rw [hwz'.out]
     obtain ⟨r0, r1, r2, r3⟩ := hFz.out
     clear g0 g1 g2 g3 z0 p1 q1 p2 q2 p3 q3
     refine bodyPost_ret (v := .tuple #[.agg #[.int .i64 0, .int .i64 0, .slice none 0 0, .slice none 0 0], .int .i64 3]) (by simp [results, Tryz.results8, go_sem, r0, r1, r2, r3]) rfl ?_
     exact DocE.no hD.out hNz.out
   ·have hD := Lib.hid (hscn.out.kind hp0 (by rw [hf0]; exact hk0))
    have dk : ((k0 : Int) != 2) = true := by rw [bne_iff_ne]; omega
    clear hr hh
    have hF := hres.out.new hu2.out
    obtain ⟨g0, g1, g2, g3⟩ := hF.cells
    have z0 := hF.frozen 0
    obtain ⟨⟨p1, q1⟩, ⟨p2, q2⟩, ⟨p3, q3⟩⟩ := hF.roads ⟨.int .i64 0, .int .i64 0, .slice none 0 0, .slice none 0 0⟩
    have hN := hN0.out.trans hu2.out
    obtain ⟨wz, hwz⟩ : ∃ wz, ((((w2.setCell ⟨w.heap.size, 0, none⟩ (.int .i64 0)).setCell ⟨w.heap.size, 1, none⟩ (.int .i64 0)).setCell ⟨w.heap.size, 2, none⟩ (.slice none 0 0)).setCell ⟨w.heap.size, 3, none⟩ (.slice none 0 0)) = wz := ⟨_, rfl⟩
    have hFz := (hF.setAll ⟨.int .i64 0, .int .i64 0, .slice none 0 0, .slice none 0 0⟩).cells
    unfold setQuad at hFz
    simp only at hFz
    rw [hwz] at hFz
    replace hFz := Lib.hid hFz
    have hNz : Hid (New0 w wz) := Lib.hid (by rw [<- hwz]; exact upon_setQuad hN (.inr (Nat.le_refl _)) ⟨.int .i64 0, .int .i64 0, .slice none 0 0, .slice none 0 0⟩)
    have hwz' : Hid (((((w2.setCell ⟨w.heap.size, 0, none⟩ (.int .i64 0)).setCell ⟨w.heap.size, 1, none⟩ (.int .i64 0)).setCell ⟨w.heap.size, 2, none⟩ (.slice none 0 0)).setCell ⟨w.heap.size, 3, none⟩ (.slice none 0 0)) = wz) := Lib.hid hwz
    clear hwz hF hN 
    go_wp2_with fail
    rw [hwz'.out]
    obtain ⟨r0, r1, r2, r3⟩ := hFz.out
    clear g0 g1 g2 g3 z0 p1 q1 p2 q2 p3 q3
    refine bodyPost_ret (v := .tuple #[.agg #[.int .i64 0, .int .i64 0, .slice none 0 0, .slice none 0 0], .int .i64 3]) (by simp [results, Tryz.results8, go_sem, r0, r1, r2, r3]) rfl ?_
    exact DocE.no hD.out hNz.out
 ·have hD := Lib.hid (scn_err hr he)
  have dx : ((e : Int) != 0) = true := by rw [bne_iff_ne]; omega
  clear hr hh
  have hF := hres.out.new hu2.out
  obtain ⟨g0, g1, g2, g3⟩ := hF.cells
  have z0 := hF.frozen 0
  obtain ⟨⟨p1, q1⟩, ⟨p2, q2⟩, ⟨p3, q3⟩⟩ := hF.roads ⟨.int .i64 0, .int .i64 0, .slice none 0 0, .slice none 0 0⟩
  have hN := hN0.out.trans hu2.out
  obtain ⟨wz, hwz⟩ : ∃ wz, ((((w2.setCell ⟨w.heap.size, 0, none⟩ (.int .i64 0)).setCell ⟨w.heap.size, 1, none⟩ (.int .i64 0)).setCell ⟨w.heap.size, 2, none⟩ (.slice none 0 0)).setCell ⟨w.heap.size, 3, none⟩ (.slice none 0 0)) = wz := ⟨_, rfl⟩
  have hFz := (hF.setAll ⟨.int .i64 0, .int .i64 0, .slice none 0 0, .slice none 0 0⟩).cells
  unfold setQuad at hFz
  simp only at hFz
  rw [hwz] at hFz
  replace hFz := Lib.hid hFz
  have hNz : Hid (New0 w wz) := Lib.hid (by rw [<- hwz]; exact upon_setQuad hN (.inr (Nat.le_refl _)) ⟨.int .i64 0, .int .i64 0, .slice none 0 0, .slice none 0 0⟩)
  have hwz' : Hid (((((w2.setCell ⟨w.heap.size, 0, none⟩ (.int .i64 0)).setCell ⟨w.heap.size, 1, none⟩ (.int .i64 0)).setCell ⟨w.heap.size, 2, none⟩ (.slice none 0 0)).setCell ⟨w.heap.size, 3, none⟩ (.slice none 0 0)) = wz) := Lib.hid hwz
  clear hwz hF hN 
  go_wp2_with fail
  rw [hwz'.out]
  obtain ⟨r0, r1, r2, r3⟩ := hFz.out
  clear g0 g1 g2 g3 z0 p1 q1 p2 q2 p3 q3
  refine bodyPost_ret (v := .tuple #[.agg #[.int .i64 0, .int .i64 0, .slice none 0 0, .slice none 0 0], .int .i64 3]) (by simp [results, Tryz.results8, go_sem, r0, r1, r2, r3]) rfl ?_
  exact DocE.no hD.out hNz.out
end Bk
end
section
open Go.RowKit Go.Sort
namespace Bk
open Bit Dsk Ob Dig
theorem pcheckIs (w : World) (S : Nat -> Prop) (v : Value) (b : B) (hv : BView w S v b) (hb : Bnd b) {z : Nat} (hz : chk b = z) :
  Calls Tryz.prog 20 #[v] w fun e w' => e = .returned (.int .i64 (z : Int)) /\ New0 w w' := by
 subst hz; exact pcheck_any w S v b hv hb
end Bk
end
section
open Go.RowKit Go.Sort
namespace Bk
open Bit Dsk Ob Dig
set_option maxHeartbeats 12800000 in
theorem pdec_any (w : World) (s : ByteArray) (hs : s.size <= 1000000000) (hT : TabA w) :
  Calls Tryz.prog 7 #[.string s] w (DocE w s.data.toList) := by
 obtain ⟨wA, hwA⟩ : ∃ wA, w.alloc (.cells #[.int .i64 0, .int .i64 0, .slice none 0 0, .slice none 0 0] 25 (0, 0)) = wA := ⟨_, rfl⟩
 have hres : Hid (Quad 25 w.heap.size ⟨.int .i64 0, .int .i64 0, .slice none 0 0, .slice none 0 0⟩ wA) := Lib.hid (by rw [<- hwA]; exact cell_new w _)
 have hN0 : Hid (New0 w wA) := Lib.hid (by rw [<- hwA]; exact (Upon.refl _ w).alloc _)
 have HB := Lib.hid (pblock_any wA s hs (hT.new hN0.out))
 obtain ⟨sl, hsl⟩ : ∃ sl, s.data.toList = sl := ⟨_, rfl⟩
 rw [hsl] at HB ⊢
 have hwA' := Lib.hid hwA
 have hszA : w.heap.size < wA.heap.size := by rw [<- hwA]; simp
 clear hwA hT hsl
 go_enter Tryz.func7, Tryz.ntmps7
 go_wp2_with fail
 rw [hwA'.out]
 refine HB.out.mono ?_
 rintro e w2 ⟨f, t, ⟨A, n, c⟩, ⟨A2, n2, c2⟩, ok, rfl, hu2, hno, hyes⟩
 have hn2 := Lib.hid (hu2.alloc (.cells #[.int .i64 f, .int .i64 t, .slice A n c, .slice A2 n2 c2] 25 (0, 0)))
 have hnb := Lib.hid ((Upon.refl (fun _ => False) w2).alloc (.cells #[.int .i64 f, .int .i64 t, .slice A n c, .slice A2 n2 c2] 25 (0, 0)))
 have hQb : Hid (Quad 25 w2.heap.size ⟨.int .i64 f, .int .i64 t, .slice A n c, .slice A2 n2 c2⟩ (w2.alloc (.cells #[.int .i64 f, .int .i64 t, .slice A n c, .slice A2 n2 c2] 25 (0, 0)))) := Lib.hid (cell_new w2 _)
 obtain ⟨wb, hwb⟩ : ∃ wb, w2.alloc (.cells #[.int .i64 f, .int .i64 t, .slice A n c, .slice A2 n2 c2] 25 (0, 0)) = wb := ⟨_, rfl⟩
 rw [hwb] at hn2 hnb hQb
 replace hwb := Lib.hid hwb
 obtain ⟨k0, k1, k2, k3⟩ := hQb.out.cells
 clear HB hwA' hu2
 cases ok with
 | false =>
  have hD := Lib.hid (hno rfl)
  clear hno hyes
  rw [<- hwb.out] at hn2 hnb hQb k0 k1 k2 k3
  have hF := hres.out.new hn2.out
  obtain ⟨g0, g1, g2, g3⟩ := hF.cells
  have z0 := hF.frozen 0
  obtain ⟨⟨p1, q1⟩, ⟨p2, q2⟩, ⟨p3, q3⟩⟩ := hF.roads ⟨.int .i64 0, .int .i64 0, .slice none 0 0, .slice none 0 0⟩
  have hN := hN0.out.trans hn2.out
  obtain ⟨wz, hwz⟩ : ∃ wz, (((((w2.alloc (.cells #[.int .i64 f, .int .i64 t, .slice A n c, .slice A2 n2 c2] 25 (0, 0))).setCell ⟨w.heap.size, 0, none⟩ (.int .i64 0)).setCell ⟨w.heap.size, 1, none⟩ (.int .i64 0)).setCell ⟨w.heap.size, 2, none⟩ (.slice none 0 0)).setCell ⟨w.heap.size, 3, none⟩ (.slice none 0 0)) = wz := ⟨_, rfl⟩
  have hFz := (hF.setAll ⟨.int .i64 0, .int .i64 0, .slice none 0 0, .slice none 0 0⟩).cells
  unfold setQuad at hFz
  simp only at hFz
  rw [hwz] at hFz
  replace hFz := Lib.hid hFz
  have hUz : Hid (Upon (fun x => x = w.heap.size) (w2.alloc (.cells #[.int .i64 f, .int .i64 t, .slice A n c, .slice A2 n2 c2] 25 (0, 0))) wz) := Lib.hid (by rw [<- hwz]; exact upon_setQuad (U := fun x => x = w.heap.size) (Upon.refl _ _) (.inl rfl) ⟨.int .i64 0, .int .i64 0, .slice none 0 0, .slice none 0 0⟩)
  have hNz : Hid (New0 w wz) := Lib.hid (by rw [<- hwz]; exact upon_setQuad hN (.inr (Nat.le_refl _)) ⟨.int .i64 0, .int .i64 0, .slice none 0 0, .slice none 0 0⟩)
  have hwz' : Hid ((((((w2.alloc (.cells #[.int .i64 f, .int .i64 t, .slice A n c, .slice A2 n2 c2] 25 (0, 0))).setCell ⟨w.heap.size, 0, none⟩ (.int .i64 0)).setCell ⟨w.heap.size, 1, none⟩ (.int .i64 0)).setCell ⟨w.heap.size, 2, none⟩ (.slice none 0 0)).setCell ⟨w.heap.size, 3, none⟩ (.slice none 0 0)) = wz) := Lib.hid hwz
  clear hwz hF hN k0 k1 k2 k3 hnb hQb
  go_wp2_with fail
  rw [hwz'.out]
  obtain ⟨r0, r1, r2, r3⟩ := hFz.out
  clear g0 g1 g2 g3 z0 p1 q1 p2 q2 p3 q3
  refine bodyPost_ret (v := .tuple #[.agg #[.int .i64 0, .int .i64 0, .slice none 0 0, .slice none 0 0], .int .i64 3]) (by simp [results, Tryz.results7, go_sem, r0, r1, r2, r3]) rfl ?_
  exact ⟨_, zero, 3, rfl, dec_not hD.out, BView.noth _ _, bnd_zero, hNz.out⟩
 | true =>
  obtain ⟨b, hv, hbd, hc0, hc1⟩ := hyes rfl
  have hvb := Lib.hid (hv.new hnb.out)
  obtain ⟨x, hx⟩ : ∃ x, chk b = x := ⟨_, rfl⟩
  have HC := Lib.hid (pcheckIs wb _ _ b hvb.out hbd hx)
  rw [hx] at hc0 hc1
  replace hbd := Lib.hid hbd
  replace hc0 := Lib.hid hc0
  replace hc1 := Lib.hid hc1
  replace hx := Lib.hid hx
  clear hno hyes hv
  go_wp2_with fail
  rw [hwb.out]
  refine HC.out.mono ?_
  rintro e w3 ⟨rfl, hu3⟩
  have hn3 := Lib.hid (hn2.out.trans hu3)
  have hv3 := Lib.hid (hvb.out.new hu3)
  have hQ3 := Lib.hid (hQb.out.new hu3)
  clear HC hvb hu3 hwb k0 k1 k2 k3 hQb hnb
  by_cases hx0 : x = 0
  ·subst hx0
   have hD := Lib.hid (hc0.out rfl)
   obtain ⟨k0, k1, k2, k3⟩ := hQ3.out.cells
   have hlt := hszA
   have hF := hres.out.new hn3.out
   obtain ⟨g0, g1, g2, g3⟩ := hF.cells
   have z0 := hF.frozen 0
   obtain ⟨⟨p1, q1⟩, ⟨p2, q2⟩, ⟨p3, q3⟩⟩ := hF.roads ⟨.int .i64 f, .int .i64 t, .slice A n c, .slice A2 n2 c2⟩
   have hN := hN0.out.trans hn3.out
   obtain ⟨wz, hwz⟩ : ∃ wz, ((((w3.setCell ⟨w.heap.size, 0, none⟩ (.int .i64 f)).setCell ⟨w.heap.size, 1, none⟩ (.int .i64 t)).setCell ⟨w.heap.size, 2, none⟩ (.slice A n c)).setCell ⟨w.heap.size, 3, none⟩ (.slice A2 n2 c2)) = wz := ⟨_, rfl⟩
   have hFz := (hF.setAll ⟨.int .i64 f, .int .i64 t, .slice A n c, .slice A2 n2 c2⟩).cells
   unfold setQuad at hFz
   simp only at hFz
   rw [hwz] at hFz
   replace hFz := Lib.hid hFz
   have hUz : Hid (Upon (fun x => x = w.heap.size) w3 wz) := Lib.hid (by rw [<- hwz]; exact upon_setQuad (U := fun x => x = w.heap.size) (Upon.refl _ _) (.inl rfl) ⟨.int .i64 f, .int .i64 t, .slice A n c, .slice A2 n2 c2⟩)
   have hNz : Hid (New0 w wz) := Lib.hid (by rw [<- hwz]; exact upon_setQuad hN (.inr (Nat.le_refl _)) ⟨.int .i64 f, .int .i64 t, .slice A n c, .slice A2 n2 c2⟩)
   have hwz' : Hid (((((w3.setCell ⟨w.heap.size, 0, none⟩ (.int .i64 f)).setCell ⟨w.heap.size, 1, none⟩ (.int .i64 t)).setCell ⟨w.heap.size, 2, none⟩ (.slice A n c)).setCell ⟨w.heap.size, 3, none⟩ (.slice A2 n2 c2)) = wz) := Lib.hid hwz
   clear hwz hF hN
   go_wp2_with fail
   rw [hwz'.out]
   obtain ⟨r0, r1, r2, r3⟩ := hFz.out
   clear g0 g1 g2 g3 z0 p1 q1 p2 q2 p3 q3
   refine bodyPost_ret (v := .tuple #[.agg #[.int .i64 f, .int .i64 t, .slice A n c, .slice A2 n2 c2], .int .i64 0]) (by simp [results, Tryz.results7, go_sem, r0, r1, r2, r3]) rfl ?_
   exact ⟨_, b, 0, rfl, hD.out, (hv3.out.upon hUz.out (fun x h1 h2 => by omega)).mono fun _ _ _ => trivial, hbd.out, hNz.out⟩
  ·have dx : ((x : Int) != 0) = true := by rw [bne_iff_ne]; omega
   have hD := Lib.hid (hc1.out hx0)
   have hF := hres.out.new hn3.out
   obtain ⟨g0, g1, g2, g3⟩ := hF.cells
   have z0 := hF.frozen 0
   obtain ⟨⟨p1, q1⟩, ⟨p2, q2⟩, ⟨p3, q3⟩⟩ := hF.roads ⟨.int .i64 0, .int .i64 0, .slice none 0 0, .slice none 0 0⟩
   have hN := hN0.out.trans hn3.out
   obtain ⟨wz, hwz⟩ : ∃ wz, ((((w3.setCell ⟨w.heap.size, 0, none⟩ (.int .i64 0)).setCell ⟨w.heap.size, 1, none⟩ (.int .i64 0)).setCell ⟨w.heap.size, 2, none⟩ (.slice none 0 0)).setCell ⟨w.heap.size, 3, none⟩ (.slice none 0 0)) = wz := ⟨_, rfl⟩
   have hFz := (hF.setAll ⟨.int .i64 0, .int .i64 0, .slice none 0 0, .slice none 0 0⟩).cells
   unfold setQuad at hFz
   simp only at hFz
   rw [hwz] at hFz
   replace hFz := Lib.hid hFz
   have hUz : Hid (Upon (fun x => x = w.heap.size) w3 wz) := Lib.hid (by rw [<- hwz]; exact upon_setQuad (U := fun x => x = w.heap.size) (Upon.refl _ _) (.inl rfl) ⟨.int .i64 0, .int .i64 0, .slice none 0 0, .slice none 0 0⟩)
   have hNz : Hid (New0 w wz) := Lib.hid (by rw [<- hwz]; exact upon_setQuad hN (.inr (Nat.le_refl _)) ⟨.int .i64 0, .int .i64 0, .slice none 0 0, .slice none 0 0⟩)
   have hwz' : Hid (((((w3.setCell ⟨w.heap.size, 0, none⟩ (.int .i64 0)).setCell ⟨w.heap.size, 1, none⟩ (.int .i64 0)).setCell ⟨w.heap.size, 2, none⟩ (.slice none 0 0)).setCell ⟨w.heap.size, 3, none⟩ (.slice none 0 0)) = wz) := Lib.hid hwz
   clear hwz hF hN 
   go_wp2_with fail
   rw [hwz'.out]
   obtain ⟨r0, r1, r2, r3⟩ := hFz.out
   clear g0 g1 g2 g3 z0 p1 q1 p2 q2 p3 q3
   refine bodyPost_ret (v := .tuple #[.agg #[.int .i64 0, .int .i64 0, .slice none 0 0, .slice none 0 0], .int .i64 3]) (by simp [results, Tryz.results7, go_sem, r0, r1, r2, r3]) rfl ?_
   exact ⟨_, zero, 3, rfl, dec_not hD.out, BView.noth _ _, bnd_zero, hNz.out⟩
end Bk
end
end Go.Proofs.YtgmnhodajngchaaGreatDoor
