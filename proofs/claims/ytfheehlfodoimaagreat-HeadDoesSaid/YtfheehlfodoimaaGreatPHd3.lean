/- Parts, put together: HdPut5, HdTry, HdPlain, HdPlain2, HdApp. -/
import Derived.Test.YtfheehlfodoimaaGreatHdPut4
import Derived.Test.YtfheehlfodoimaaGreatPRc1

/- The document's head (layer 13): put, of whatever sample. -/
section
set_option maxRecDepth 100000
namespace Go.Proofs.YtfheehlfodoimaaGreat
open Go.RowKit Go.Sort
open Bit Dsk Ob Dig
namespace Hd
set_option linter.unusedVariables false
set_option linter.unusedSimpArgs false
set_option maxHeartbeats 12800000 in
theorem put_old (w : World) {A R : Nat → Prop} {p : Nat} {u : Rw.Sl} {rs : List RR} {h : H} (hh : HeadR w A R p u rs h) (hsane : Sane h) (S : Nat → Prop) (la : Option Addr) (lc : Nat) (l : List Lb.Pr) (t : Int) (q : Nat) (hv : Lb.View w S (.slice la l.length lc) l)
    (hin : isIn h l = true) (hold : t ≤ lastAt h l) :
    Calls Tryz.prog 18 #[.pointer (some ⟨p, 0, none⟩), .agg #[.slice la l.length lc, .int .i64 t, .int .u64 (q : Int)]] w fun e w' => e = .returned (.bool false) ∧ New0 w w' := by
  have ux := (Upon.refl (fun _ => False) w).alloc (.cells #[.slice la l.length lc, .int .i64 t, .int .u64 (q : Int)] 42 (0, 0))
  have hT : Rw.Blk3 42 w.heap.size (.slice la l.length lc) (.int .i64 t) (.int .u64 (q : Int)) (w.alloc (.cells #[.slice la l.length lc, .int .i64 t, .int .u64 (q : Int)] 42 (0, 0))) := cell_new w _
  obtain ⟨wx, hwx⟩ : ∃ wx, w.alloc (.cells #[.slice la l.length lc, .int .i64 t, .int .u64 (q : Int)] 42 (0, 0)) = wx := ⟨_, rfl⟩
  have hT' := hT.cells
  have HA := at_any _ (hh.new ux) S _ l (Rw.View.new hv ux)
  rw [hin] at HA
  rw [hwx] at ux hT
  obtain ⟨hj, hlab⟩ := isIn_lt hin
  obtain ⟨g, c, r, hu, -, hr, -, -, -, -, -, -⟩ := hh.at hj
  have hlr := hh.rows.len
  have hri : ix h l < rs.length := by omega
  obtain rfl : rs[ix h l] = r := by rw [List.getElem?_eq_getElem hri] at hr; exact Option.some.inj hr
  have hadd : add h (l, t, q) = h.set (ix h l) ⟨h[ix h l].lab, h[ix h l].pts ++ [(t, q)], t⟩ := by
    simp only [add, room_in hin, grow1]
  rw [lastAt_is hj] at hold
  have hh0 := Lib.hid (fun w' (hu : New0 wx w') => hh.new (ux.trans hu))
  have hC := Lib.hid (fun w' (hu : New0 wx w') => (hT.new hu).cells)
  have hF := Lib.hid (fun w' (hu2 : New0 wx w') => (hh.new (ux.trans hu2)).at2 hj hu hri)
  have hpl := hsane.pts _ (List.getElem_mem hj)
  replace hadd := Lib.hid hadd
  replace HA := Lib.hid HA
  replace hwx := Lib.hid hwx
  replace hT := Lib.hid hT
  replace ux := Lib.hid ux
  replace hu := Lib.hid hu
  obtain ⟨lst, hlst⟩ : ∃ lst, h[ix h l].last = lst := ⟨_, rfl⟩
  obtain ⟨pts, hpts⟩ : ∃ pts, h[ix h l].pts = pts := ⟨_, rfl⟩
  have hgr := Lib.hid (fun (W x : World) (k1 : New0 wx W) (t' : Rw.Sl) (k2 : PMine x t'.v (h[ix h l].pts ++ [(t, q)])) (k3 : W.grownBy x rs[ix h l].pts.v.ownBlock) (k4 : t'.v.ownBlock = rs[ix h l].pts.v.ownBlock ∨ t'.v.ownBlock = some W.heap.size) => HeadR.grow hh (ux.out.trans k1) hj hu.out hri k2 k3 k4 t)
  rw [hlst] at hold hF
  rw [hpts] at hF hpl hgr
  have hD := Lib.hid (fun b (hb : rs[ix h l].pts.v.ownBlock = some b) => (hh.rows.pts _ hri hj).typ hb)
  have hgtyp : ∃ cs, w.heap[g]? = some (.cells cs 59 (0, 0)) := Rw.Mine.typ hh.row (g := g) (by rw [hu.out]; rfl)
  have hne : ∀ b, rs[ix h l].pts.v.ownBlock = some b → b ≠ p ∧ b ≠ g ∧ b < w.heap.size := fun b hb => by
    obtain ⟨cs, h1⟩ := hD.out b hb
    obtain ⟨cs2, h2⟩ := hgtyp
    exact ⟨(typ_ne ne_HP hh.box h1).symm, (typ_ne ne_RP h2 h1).symm, (Array.getElem?_eq_some_iff.1 h1).1⟩
  replace hne := Lib.hid hne
  have hpg : p ≠ g := by obtain ⟨cs2, h2⟩ := hgtyp; exact typ_ne ne_HR hh.box h2
  have hglt : g < w.heap.size := by obtain ⟨cs2, h2⟩ := hgtyp; exact (Array.getElem?_eq_some_iff.1 h2).1
  replace hpg := Lib.hid hpg
  replace hglt := Lib.hid hglt
  obtain ⟨⟨pa, pn, pc⟩, hps⟩ : ∃ s, rs[ix h l].pts = s := ⟨_, rfl⟩
  rw [hps] at hF hgr hne
  simp only at hF
  have hhl := hh.few
  obtain ⟨i, hi⟩ : ∃ i, ix h l = i := ⟨_, rfl⟩
  have hadd2 := hadd.out.symm
  rw [hpts] at hadd2
  simp only [hi] at hadd2
  replace hadd2 := Lib.hid hadd2
  simp only [hi] at HA hF hgr hj
  have hux0 := Lib.hid ux.out
  clear hD hgtyp hh hv hr hlab hps hlst hpts hadd hri hlr hin
  have d1 : decide (t ≤ lst) = true := decide_eq_true hold
  obtain ⟨s0, s1, s2⟩ := hT'
  go_enter Tryz.func18, Tryz.ntmps18
  go_wp2_with fail
  refine HA.out.mono ?_
  rintro e w2 ⟨rfl, n, rfl⟩
  rw [hwx.out]
  have hn2 := Lib.hid (upon_drewN (fun _ => False) wx n)
  clear HA s0 s1 s2 hwx
  generalize wx.drewN n = w2 at *
  obtain ⟨b0, x1, x2, -, -⟩ := hF.out w2 hn2.out
  obtain ⟨s0, s1, s2⟩ := hC.out w2 hn2.out
  go_wp2_with fail
  go_quiet (fail)
  have hn3 := Lib.hid (hux0.out.trans (hn2.out.trans (upon_drewN (fun _ => False) w2 nq)))
  generalize w2.drewN nq = W at *
  go_wp2_with fail
  go_ret
  exact ⟨rfl, hn3.out⟩
/-- Whatever the sample. -/
theorem put_any (w : World) {A R : Nat → Prop} {p : Nat} {u : Rw.Sl} {rs : List RR} {h : H} (hh : HeadR w A R p u rs h) (hsane : Sane h) (S : Nat → Prop) (la : Option Addr) (lc : Nat) (l : List Lb.Pr) (t : Int) (q : Nat) (hv : Lb.View w S (.slice la l.length lc) l) (hll : l.length ≤ 1000000000) :
    Calls Tryz.prog 18 #[.pointer (some ⟨p, 0, none⟩), .agg #[.slice la l.length lc, .int .i64 t, .int .u64 (q : Int)]] w fun e w' => e = .returned (.bool (!old h (l, t, q))) ∧ (old h (l, t, q) = true → New0 w w') ∧ (old h (l, t, q) = false → PutE w w' A R p (add h (l, t, q))) := by
  cases hin : isIn h l with
  | true =>
    by_cases hold : t ≤ lastAt h l
    · have e1 : old h (l, t, q) = true := by simp [old, hin, hold]
      rw [e1]
      exact (put_old w hh hsane S la lc l t q hv hin hold).mono fun e w' k => ⟨k.1, fun _ => k.2, fun f => (by cases f)⟩
    · have e1 : old h (l, t, q) = false := by simp [old, hin, hold]
      rw [e1]
      exact (put_in w hh hsane S la lc l t q hv hin hold).mono fun e w' k => ⟨k.1, fun f => (by cases f), fun _ => k.2⟩
  | false =>
    have e1 : old h (l, t, q) = false := by simp [old, hin]
    rw [e1]
    rcases hh.row.shape with ⟨h1, -⟩ | ⟨g, c, h1, -, -, -⟩
    · refine (put_nil w hh hsane S la lc l t q hv hll hin ?_).mono fun e w' k => ⟨k.1, fun f => (by cases f), fun _ => k.2⟩
      injection h1
    · refine (put_new w hh hsane S la lc l t q hv hll hin ⟨g, ?_⟩).mono fun e w' k => ⟨k.1, fun f => (by cases f), fun _ => k.2⟩
      injection h1
end Hd
end Go.Proofs.YtfheehlfodoimaaGreat
end

/- The document's head (layer 13): Try. -/
section
set_option maxRecDepth 100000
namespace Go.Proofs.YtfheehlfodoimaaGreat
open Go.RowKit Go.Sort
open Bit Dsk Ob Dig
namespace Hd
set_option linter.unusedVariables false
set_option linter.unusedSimpArgs false

theorem puts_snoc : ∀ (h : H) (l : List Rc.Smp) (s : Rc.Smp), puts h (l ++ [s]) = match puts h l with | none => none | some g => if old g s = true then none else some (add g s)
  | h, [], s => by simp [puts]
  | h, x :: l, s => by
    simp only [List.cons_append, puts]
    split
    · rfl
    · exact puts_snoc _ l s
theorem puts_none : ∀ (h : H) (l m : List Rc.Smp), puts h l = none → puts h (l ++ m) = none
  | h, [], m, e => by simp [puts] at e
  | h, x :: l, m, e => by
    simp only [List.cons_append, puts] at e ⊢
    split
    · rfl
    · rename_i k
      rw [if_neg k] at e
      exact puts_none _ l m e
/-- Room for k samples more. -/
structure SaneN (k : Nat) (h : H) : Prop where
  len : h.length + k ≤ 1000000000
  pts : ∀ r ∈ h, r.pts.length + k ≤ 1000000000
  lab : ∀ r ∈ h, r.lab.length ≤ 1000000000
theorem SaneN.sane {k : Nat} {h : H} (hh : SaneN k h) : Sane h := ⟨by have := hh.len; omega, fun r hr => by have := hh.pts r hr; omega, hh.lab⟩
theorem SaneN.room {k : Nat} {h : H} (hh : SaneN (k + 1) h) {l : List Lb.Pr} (hl : l.length ≤ 1000000000) : ∀ r ∈ room h l, r.pts.length + (k + 1) ≤ 1000000000 ∧ r.lab.length ≤ 1000000000 := fun r hr => by
  have hk : k + 1 ≤ 1000000000 := by have := hh.len; omega
  cases hi : isIn h l with
  | true => rw [room_in hi] at hr; exact ⟨hh.pts r hr, hh.lab r hr⟩
  | false =>
    rw [room_new hi] at hr
    rcases List.mem_append.1 hr with hr | hr
    · rcases List.mem_append.1 hr with hr | hr
      · exact ⟨hh.pts r (List.mem_of_mem_take hr), hh.lab r (List.mem_of_mem_take hr)⟩
      · rw [List.mem_singleton] at hr
        subst hr
        exact ⟨by simpa using hk, hl⟩
    · exact ⟨hh.pts r (List.mem_of_mem_drop hr), hh.lab r (List.mem_of_mem_drop hr)⟩
theorem SaneN.add {k : Nat} {h : H} (hh : SaneN (k + 1) h) {s : Rc.Smp} (hl : s.1.length ≤ 1000000000) : SaneN k (add h s) := by
  have h1 := hh.len
  have h2 := add_len h s
  have h3 := hh.room hl
  have h4 : ∀ r ∈ Hd.add h s, r.pts.length + k ≤ 1000000000 ∧ r.lab.length ≤ 1000000000 := fun r hr => by
    rw [Hd.add] at hr
    rcases List.mem_or_eq_of_mem_set hr with hr | hr
    · have := h3 r hr; omega
    · have := h3 _ (List.getElem_mem (room_lt h s.1))
      rw [hr]
      simp only [grow1, List.length_append, List.length_singleton]
      omega
  exact ⟨by omega, fun r hr => (h4 r hr).1, fun r hr => (h4 r hr).2⟩
theorem upon_new {A : Nat → Prop} {w w1 w2 : World} (h1 : New0 w w1) (h2 : Upon A w1 w2) (hA : ∀ b, A b → w.heap.size ≤ b) : New0 w w2 :=
  h1.trans' h2 (fun b hb k => by have := hA b k; omega)
set_option maxHeartbeats 6400000 in
theorem try_any (w : World) {A R : Nat → Prop} {p : Nat} {u : Rw.Sl} {rs : List RR} {h : H} (hh : HeadR w A R p u rs h) (S : Nat → Prop) (v : Value) (r : Rc.R) (hv : Rc.RView w S v r) (hb : Rc.Bnd r) (hsane : SaneN r.smp.length h) (hsl : ∀ x ∈ r.smp, x.1.length ≤ 1000000000) :
    Calls Tryz.prog 8 #[.pointer (some ⟨p, 0, none⟩), v] w fun e w' => e = .returned (.int .i64 (tr h r : Int)) ∧ New0 w w' := by
  obtain ⟨As, cs, Am, cm, rfl, hs, hm⟩ := Rc.RView.shape hv
  obtain ⟨wx, hwx⟩ : ∃ wx, w.alloc (.cells #[.int .i64 r.kind, .slice As r.smp.length cs, .slice Am r.ms.length cm, .int .i64 r.frm, .int .i64 r.til] 34 (0, 0)) = wx := ⟨_, rfl⟩
  have ux := (Upon.refl (fun _ => False) w).alloc (.cells #[.int .i64 r.kind, .slice As r.smp.length cs, .slice Am r.ms.length cm, .int .i64 r.frm, .int .i64 r.til] 34 (0, 0))
  have hX := cell_new w (.cells #[.int .i64 r.kind, .slice As r.smp.length cs, .slice Am r.ms.length cm, .int .i64 r.frm, .int .i64 r.til] 34 (0, 0))
  have k0 : (w.alloc (.cells #[.int .i64 r.kind, .slice As r.smp.length cs, .slice Am r.ms.length cm, .int .i64 r.frm, .int .i64 r.til] 34 (0, 0))).cell? ⟨w.heap.size, 0, none⟩ = some (.int .i64 r.kind) := by rw [Lib.cell_of_heap hX]; rfl
  have k1 : (w.alloc (.cells #[.int .i64 r.kind, .slice As r.smp.length cs, .slice Am r.ms.length cm, .int .i64 r.frm, .int .i64 r.til] 34 (0, 0))).cell? ⟨w.heap.size, 1, none⟩ = some (.slice As r.smp.length cs) := by rw [Lib.cell_of_heap hX]; rfl
  have k2 : (w.alloc (.cells #[.int .i64 r.kind, .slice As r.smp.length cs, .slice Am r.ms.length cm, .int .i64 r.frm, .int .i64 r.til] 34 (0, 0))).cell? ⟨w.heap.size, 2, none⟩ = some (.slice Am r.ms.length cm) := by rw [Lib.cell_of_heap hX]; rfl
  have k3 : (w.alloc (.cells #[.int .i64 r.kind, .slice As r.smp.length cs, .slice Am r.ms.length cm, .int .i64 r.frm, .int .i64 r.til] 34 (0, 0))).cell? ⟨w.heap.size, 3, none⟩ = some (.int .i64 r.frm) := by rw [Lib.cell_of_heap hX]; rfl
  have k4 : (w.alloc (.cells #[.int .i64 r.kind, .slice As r.smp.length cs, .slice Am r.ms.length cm, .int .i64 r.frm, .int .i64 r.til] 34 (0, 0))).cell? ⟨w.heap.size, 4, none⟩ = some (.int .i64 r.til) := by rw [Lib.cell_of_heap hX]; rfl
  have HC := Rc.refcheck_any _ S _ r (Rc.RView.new hv ux) hb
  rw [hwx] at ux hX HC
  have hP := Lib.hid (fun w1 (hu : New0 wx w1) => copy_any w1 (hh.new (ux.trans hu)) hsane.sane)
  have hB := Lib.hid (fun w1 (hu : New0 wx w1) => (by rw [Lib.cell_of_heap ((hu.block w.heap.size (Array.getElem?_eq_some_iff.1 hX).1 (fun f => f)).trans hX)]; rfl : w1.cell? ⟨w.heap.size, 1, none⟩ = some (.slice As r.smp.length cs)))
  have hS := Lib.hid (fun w1 (hu : New0 wx w1) => (Rw.DView.upon hs (ux.trans hu) (fun _ _ f => f) : Rc.SView w1 S (.slice As r.smp.length cs) r.smp))
  have hfew : r.smp.length ≤ 1000000000 := by have := hsane.len; omega
  replace hsane := Lib.hid hsane
  replace hsl := Lib.hid hsl
  replace HC := Lib.hid HC
  replace hwx := Lib.hid hwx
  replace hX := Lib.hid hX
  replace ux := Lib.hid ux
  replace hb := Lib.hid hb
  clear hv hs hm hh
  go_enter Tryz.func8, Tryz.ntmps8
  go_wp2_with fail
  rw [hwx.out]
  refine HC.out.mono ?_
  rintro e w2 ⟨rfl, hu2⟩
  by_cases hc : Rc.chk r = 0
  · have htr : tr h r = match puts h r.smp with | none => 14 | some g => if 256 < g.length then 4 else 0 := by rw [tr, if_neg (by simp [hc])]; rfl
    replace htr := Lib.hid htr
    have hu2 := Lib.hid hu2
    clear HC k0 k1 k2 k3 k4
    go_wp2_with fail
    refine (hP.out w2 hu2.out).mono ?_
    rintro e w3 ⟨q, A1, u1, rs1, rfl, hq, hA1, hu3⟩
    have hn3 := Lib.hid (hu2.out.trans hu3)
    have hbase : Hid (∀ b, A1 b → wx.heap.size ≤ b) := Lib.hid (fun b k => by have := hA1 b k; have := hu2.out.size; omega)
    replace hq := Lib.hid hq
    clear hA1 hu3 hP
    go_wp2_with fail
    go_loopw [7] (fun iv wr => ∃ (j : Nat) (g : H) (A1 R1 : Nat → Prop) (u1 : Rw.Sl) (rs1 : List RR), iv = .int .i64 (j : Int) ∧ j ≤ r.smp.length ∧ Hid (puts h (r.smp.take j) = some g) ∧ Hid (HeadR wr A1 R1 q u1 rs1 g) ∧ Hid (∀ b, A1 b → wx.heap.size ≤ b) ∧ Hid (SaneN (r.smp.length - j) g) ∧ Hid (New0 wx wr)) (fun iv _ => r.smp.length - (intOf iv).toNat)
    case atStart => exact ⟨0, h, A1, R, u1, rs1, rfl, Nat.zero_le _, Lib.hid rfl, hq, hbase, Lib.hid hsane.out, hn3⟩
    case round =>
      obtain ⟨j, g, A1, R1, u1, rs1, rfl, hj, hputs, hg, hbs, hsn, hnw⟩ := hrel
      have c1 := hB.out wr hnw.out
      by_cases hlt : j < r.smp.length
      · obtain ⟨bs, off, hAs, hbl, hcells⟩ := Rc.SView.cells (hS.out wr hnw.out) (by omega)
        obtain ⟨⟨la, ln, lc⟩, hlv, d0, d1, d2⟩ := hcells j hlt
        subst hAs
        have hx := hsl.out _ (List.getElem_mem hlt)
        have htk := List.take_succ_eq_append_getElem hlt
        have hdr : r.smp = r.smp.take (j + 1) ++ r.smp.drop (j + 1) := (List.take_append_drop _ _).symm
        obtain ⟨⟨l, t, qq⟩, hs⟩ : ∃ s, r.smp[j] = s := ⟨_, rfl⟩
        rw [hs] at hlv d1 d2 hx htk
        simp only at hlv d1 d2 hx
        replace d0 : wr.cell? ⟨bs, off + j * 3, none⟩ = some (.slice la ln lc) := d0
        have hln : ln = l.length := by
          obtain ⟨A2, c2, e2, -, -⟩ := Rw.View.shape hlv
          injection e2
        subst hln
        have hsn2 : SaneN (r.smp.length - (j + 1) + 1) g := by have := hsn.out; rwa [show r.smp.length - (j + 1) + 1 = r.smp.length - j by omega]
        have HPut := Lib.hid (put_any wr hg.out hsn2.sane S la lc l t qq hlv hx)
        have hpn : Hid (puts h (r.smp.take (j + 1)) = if old g (l, t, qq) = true then none else some (add g (l, t, qq))) := Lib.hid (by rw [htk, puts_snoc, hputs.out])
        have hsa := Lib.hid (hsn2.add (s := (l, t, qq)) hx)
        replace hdr := Lib.hid hdr
        clear hlv hcells htk hs hsn2 hx
        go_wp2_with fail
        refine HPut.out.mono ?_
        rintro e w5 ⟨rfl, ho1, ho2⟩
        cases ho : old g (l, t, qq) with
        | true =>
          have hN := Lib.hid (ux.out.trans (hnw.out.trans (ho1 ho)))
          have ht : tr h r = 14 := by
            rw [htr.out, hdr.out, puts_none h _ _ (by rw [hpn.out, if_pos ho])]
          replace ht := Lib.hid ht
          clear htr hpn hsa HPut ho1 ho2 hsn hg hbs hputs
          go_wp2_with fail
          go_ret
          exact ⟨by rw [ht.out]; rfl, hN.out⟩
        | false =>
          obtain ⟨⟨A2, R2, u2, rs2, hh2, e1, e2, e3⟩, hup⟩ := ho2 ho
          have hn6 := Lib.hid (upon_new (w := wx) hnw.out hup hbs.out)
          have hq2 := Lib.hid hh2
          have hb2 : Hid (∀ b, A2 b → wx.heap.size ≤ b) := Lib.hid (fun b k => (e2 b k).elim (hbs.out b) (fun k2 => by have := hnw.out.size; omega))
          have hp2 : Hid (puts h (r.smp.take (j + 1)) = some (add g (l, t, qq))) := Lib.hid (by rw [hpn.out, if_neg (by rw [ho]; decide)])
          clear hpn HPut ho1 ho2 hsn hg hbs hputs hh2 e1 e2 e3 hup hnw c1 d0 d1 d2
          go_wp2_with fail
          go_roundw
          case rel => exact ⟨j + 1, _, A2, R2, u2, rs2, by go_num, hlt, hp2, hq2, hb2, hsa, hn6⟩
          case measure => simp [intOf]; omega
      · have hje : j = r.smp.length := by omega
        have hpe : puts h r.smp = some g := by rw [← hputs.out, hje, List.take_length]
        have ht : tr h r = if 256 < g.length then 4 else 0 := by rw [htr.out, hpe]
        have b0 := hg.out.box0
        have hun := hg.out.len
        obtain ⟨ua, un, uc⟩ := u1
        simp only at hun b0
        subst hun
        have hN := Lib.hid (ux.out.trans hnw.out)
        replace ht := Lib.hid ht
        clear hpe htr hje hg hputs hbs hsn hnw
        by_cases h256 : 256 < g.length
        · go_wp2_with fail
          go_ret
          exact ⟨by rw [ht.out, if_pos h256]; rfl, hN.out⟩
        · go_wp2_with fail
          go_ret
          exact ⟨by rw [ht.out, if_neg h256]; rfl, hN.out⟩
  · have ht : tr h r = Rc.chk r := by rw [tr, if_pos hc]
    have hc2 : ¬ ((Rc.chk r : Nat) : Int) = 0 := by omega
    replace ht := Lib.hid ht
    have hN := Lib.hid (ux.out.trans hu2)
    clear HC k0 k1 k2 k3 k4 hP hB hS
    go_wp2_with fail
    go_ret
    exact ⟨by rw [ht.out]; rfl, hN.out⟩
end Hd
end Go.Proofs.YtfheehlfodoimaaGreat
end

/- Layer 13, plainly: heads in order, what commits and deletes do to them. Names no function of the program. -/
section
set_option maxRecDepth 100000
namespace Go.Proofs.YtfheehlfodoimaaGreat
open Go.RowKit
namespace Hd
open Bit Dsk Ob Dig
set_option linter.unusedVariables false
set_option linter.unusedSimpArgs false

/-! ### rows in order -/
abbrev Lt (a b : List Lb.Pr) : Prop := Lb.cmp a b < 0
theorem lt_not_self (a : List Lb.Pr) : ¬ Lt a a := by unfold Lt; rw [Lb.cmp_self]; decide
theorem lt_trans {a b c : List Lb.Pr} (h1 : Lt a b) (h2 : Lt b c) : Lt a c := by
  unfold Lt at *
  exact (Lb.cmp_trans a b c (by omega) (by omega)).2 h1
theorem lt_ne {a b : List Lb.Pr} (h : Lt a b) : a ≠ b := fun e => by subst e; exact lt_not_self _ h
theorem lt_of_not {a b : List Lb.Pr} (h : ¬ Lt a b) (hn : a ≠ b) : Lt b a := by
  unfold Lt at *
  have h1 := Lb.cmp_swap a b
  have h2 : Lb.cmp a b ≠ 0 := fun e => hn ((Lb.cmp_same a b).1 e)
  omega
def labs (h : H) : List (List Lb.Pr) := h.map Row.lab
def Srt (h : H) : Prop := (labs h).Pairwise Lt
theorem srt_nil : Srt [] := List.Pairwise.nil
theorem Srt.at {h : H} (hs : Srt h) {i j : Nat} (hi : i < h.length) (hj : j < h.length) (hij : i < j) : Lt h[i].lab h[j].lab := by
  have := List.pairwise_iff_getElem.1 hs i j (by simpa [labs] using hi) (by simpa [labs] using hj) hij
  simpa [labs] using this
theorem Srt.ix {h : H} (hs : Srt h) {i : Nat} (hi : i < h.length) {l : List Lb.Pr} (hl : h[i].lab = l) : ix h l = i :=
  ix_is (Nat.le_of_lt hi) (fun k hk hki => by rw [← hl]; exact hs.at hk hi hki) (fun _ => by rw [hl]; exact lt_not_self l)
theorem Srt.isIn {h : H} (hs : Srt h) {i : Nat} (hi : i < h.length) {l : List Lb.Pr} (hl : h[i].lab = l) : isIn h l = true ∧ lastAt h l = h[i].last := by
  have e := hs.ix hi hl
  have hk : Hd.ix h l < h.length := by rw [e]; exact hi
  refine ⟨?_, ?_⟩
  · rw [isIn_at hk]; simp only [e, hl, decide_true]
  · rw [lastAt_is hk]; simp only [e]
theorem Srt.mem {h : H} (hs : Srt h) {r : Row} (hr : r ∈ h) : Hd.isIn h r.lab = true ∧ lastAt h r.lab = r.last := by
  obtain ⟨i, hi, rfl⟩ := List.mem_iff_getElem.1 hr
  exact hs.isIn hi rfl
theorem isIn_mem {h : H} {l : List Lb.Pr} (hi : isIn h l = true) : ∃ r ∈ h, r.lab = l := by
  obtain ⟨hj, e⟩ := isIn_lt hi
  exact ⟨_, List.getElem_mem hj, e⟩
theorem Srt.one {h : H} (hs : Srt h) {a b : Row} (ha : a ∈ h) (hb : b ∈ h) (e : a.lab = b.lab) : a = b := by
  obtain ⟨i, hi, rfl⟩ := List.mem_iff_getElem.1 ha
  obtain ⟨j, hj, rfl⟩ := List.mem_iff_getElem.1 hb
  have e1 := hs.ix hi e
  have e2 := hs.ix hj rfl
  have : i = j := by omega
  subst this; rfl
theorem labs_set {h : H} {i : Nat} (hi : i < h.length) {x : Row} (hx : x.lab = h[i].lab) : labs (h.set i x) = labs h := by
  unfold labs
  rw [List.map_set, hx, ← List.getElem_map Row.lab (h := by simpa using hi)]
  exact List.set_getElem_self _
theorem labs_new (h : H) (l : List Lb.Pr) (hn : isIn h l = false) : labs (room h l) = (labs h).take (ix h l) ++ l :: (labs h).drop (ix h l) := by
  rw [room_new hn]; simp [labs]
theorem labs_add (h : H) (s : Rc.Smp) : labs (add h s) = labs (room h s.1) := by
  unfold add
  exact labs_set (room_lt h s.1) rfl
theorem Srt.room {h : H} (hs : Srt h) (l : List Lb.Pr) : Srt (room h l) := by
  cases hn : Hd.isIn h l with
  | true => rw [room_in hn]; exact hs
  | false =>
    unfold Srt
    rw [labs_new h l hn]
    have hle := ix_le h l
    have hlen : (labs h).length = h.length := by simp [labs]
    have hbefore : ∀ a ∈ (labs h).take (Hd.ix h l), Lt a l := fun a ha => by
      obtain ⟨i, hi, rfl⟩ := List.mem_iff_getElem.1 ha
      rw [List.length_take] at hi
      rw [List.getElem_take]
      have := ix_before (h := h) (l := l) (i := i) (by omega) (by omega)
      simpa [labs] using this
    have hafter : ∀ b ∈ (labs h).drop (Hd.ix h l), Lt l b := fun b hb => by
      obtain ⟨i, hi, rfl⟩ := List.mem_iff_getElem.1 hb
      rw [List.length_drop] at hi
      rw [List.getElem_drop]
      have hk : Hd.ix h l < h.length := by omega
      have h0 : Lt l h[Hd.ix h l].lab := lt_of_not (ix_stop hk) (fun e => by rw [isIn_at hk] at hn; exact absurd e (of_decide_eq_false hn))
      have h1 : (labs h)[Hd.ix h l + i]'(by omega) = h[Hd.ix h l + i].lab := by simp [labs]
      rw [h1]
      by_cases hi0 : i = 0
      · subst hi0; exact h0
      · exact lt_trans h0 (hs.at hk (by omega) (by omega))
    rw [List.pairwise_append, List.pairwise_cons]
    refine ⟨List.Pairwise.sublist (List.take_sublist _ _) hs, ⟨hafter, List.Pairwise.sublist (List.drop_sublist _ _) hs⟩, fun a ha b hb => ?_⟩
    rcases List.mem_cons.1 hb with rfl | hb
    · exact hbefore a ha
    · exact lt_trans (hbefore a ha) (hafter b hb)
theorem Srt.add {h : H} (hs : Srt h) (s : Rc.Smp) : Srt (add h s) := by
  unfold Srt; rw [labs_add]; exact hs.room s.1
theorem Srt.puts : ∀ {l : List Rc.Smp} {h g : H}, Srt h → Hd.puts h l = some g → Srt g
  | [], h, g, hs, e => by simp only [Hd.puts, Option.some.injEq] at e; rw [← e]; exact hs
  | s :: l, h, g, hs, e => by
    simp only [Hd.puts] at e
    split at e
    · cases e
    · exact (hs.add s).puts e
theorem labs_del (h : H) (ms : List Mt.M) (a b : Int) : labs (del h ms a b) = labs h := by
  unfold labs del
  rw [List.map_map]
  apply List.map_congr_left
  intro r _
  simp only [Function.comp, del1]
  split <;> rfl
theorem Srt.del {h : H} (hs : Srt h) (ms : List Mt.M) (a b : Int) : Srt (del h ms a b) := by unfold Srt; rw [labs_del]; exact hs
theorem Srt.app {h : H} (hs : Srt h) (r : Rc.R) : Srt (app h r) := by
  unfold Hd.app
  split
  · exact hs
  · split
    · exact hs.del _ _ _
    · cases hp : Hd.puts h r.smp with
      | none => exact hs
      | some g => exact hs.puts hp
/-! ### the rows behind a sample -/
/-- The row where a sample goes. -/
theorem room_at {h : H} {l : List Lb.Pr} : ((room h l)[ix h l]'(room_lt h l)).lab = l ∧ (isIn h l = true → ((room h l)[ix h l]'(room_lt h l)) ∈ h ∧ ((room h l)[ix h l]'(room_lt h l)).last = lastAt h l) ∧ (isIn h l = false → ((room h l)[ix h l]'(room_lt h l)).pts = []) := by
  cases hn : isIn h l with
  | true =>
    obtain ⟨hj, e⟩ := isIn_lt hn
    have hr := room_in hn
    simp only [hr]
    exact ⟨e, fun _ => ⟨List.getElem_mem hj, (lastAt_is hj).symm⟩, fun k => (by cases k)⟩
  | false =>
    have hle := ix_le h l
    have hg : (room h l)[ix h l]'(room_lt h l) = ⟨l, [], 0⟩ := by
      have hlen : (h.take (ix h l)).length = ix h l := by rw [List.length_take]; omega
      simp only [room_new hn]
      rw [List.getElem_append_left (by simp; omega), List.getElem_append_right (by omega)]
      simp [hlen]
    rw [hg]
    exact ⟨rfl, fun k => (by cases k), fun _ => rfl⟩
theorem mem_room {h : H} {l : List Lb.Pr} {r : Row} (hr : r ∈ h) : r ∈ room h l := by
  cases hn : isIn h l with
  | true => rw [room_in hn]; exact hr
  | false =>
    rw [room_new hn]
    rw [← List.take_append_drop (ix h l) h] at hr
    simp only [List.mem_append] at hr ⊢
    rcases hr with hr | hr
    · exact .inl (.inl hr)
    · exact .inr hr
theorem room_mem {h : H} {l : List Lb.Pr} {r : Row} (hr : r ∈ room h l) : r ∈ h ∨ r = ⟨l, [], 0⟩ := by
  cases hn : isIn h l with
  | true => rw [room_in hn] at hr; exact .inl hr
  | false =>
    rw [room_new hn] at hr
    simp only [List.mem_append, List.mem_singleton] at hr
    rcases hr with (hr | hr) | hr
    · exact .inl (List.mem_of_mem_take hr)
    · exact .inr hr
    · exact .inl (List.mem_of_mem_drop hr)
/-- The row that a sample makes. -/
def rowOf (h : H) (s : Rc.Smp) : Row := grow1 s ((room h s.1)[ix h s.1]'(room_lt h s.1))
theorem rowOf_lab (h : H) (s : Rc.Smp) : (rowOf h s).lab = s.1 := room_at.1
theorem rowOf_last (h : H) (s : Rc.Smp) : (rowOf h s).last = s.2.1 := rfl
theorem rowOf_mem (h : H) (s : Rc.Smp) : rowOf h s ∈ add h s := by
  unfold add
  exact List.mem_set (room_lt h s.1) _
/-- All others stay. -/
theorem add_other {h : H} {s : Rc.Smp} {r : Row} (hr : r ∈ h) (hl : r.lab ≠ s.1) : r ∈ add h s := by
  have h1 := mem_room (l := s.1) hr
  obtain ⟨i, hi, e⟩ := List.mem_iff_getElem.1 h1
  have hne : ix h s.1 ≠ i := fun e2 => by
    subst e2
    have := room_at (h := h) (l := s.1)
    rw [e] at this
    exact hl this.1
  unfold add
  refine List.mem_iff_getElem.2 ⟨i, by simpa using hi, ?_⟩
  rw [List.getElem_set_ne hne]; exact e
theorem add_mem {h : H} {s : Rc.Smp} (hs : Srt h) {r : Row} (hr : r ∈ add h s) : r = rowOf h s ∨ (r ∈ h ∧ r.lab ≠ s.1) := by
  unfold add at hr
  obtain ⟨i, hi, e⟩ := List.mem_iff_getElem.1 hr
  by_cases he : ix h s.1 = i
  · subst he
    rw [List.getElem_set_self] at e
    exact .inl e.symm
  · rw [List.getElem_set_ne he] at e
    have hi2 : i < (room h s.1).length := by simpa using hi
    have hlab : r.lab ≠ s.1 := fun e2 => he ((hs.room s.1).ix (room_lt h s.1) room_at.1 ▸ (hs.room s.1).ix hi2 (by rw [e]; exact e2))
    refine .inr ⟨?_, hlab⟩
    rcases room_mem (e ▸ List.getElem_mem hi2 : r ∈ room h s.1) with h1 | h1
    · exact h1
    · rw [h1] at hlab; exact absurd rfl hlab
theorem old_is {h : H} (hs : Srt h) {s : Rc.Smp} : old h s = true ↔ ∃ r ∈ h, r.lab = s.1 ∧ s.2.1 ≤ r.last := by
  constructor
  · intro ho
    simp only [old, Bool.and_eq_true, decide_eq_true_eq] at ho
    obtain ⟨r, hr, e⟩ := isIn_mem ho.1
    have := hs.mem hr
    rw [e] at this
    exact ⟨r, hr, e, by rw [← this.2]; exact ho.2⟩
  · rintro ⟨r, hr, e, hl⟩
    have := hs.mem hr
    rw [e] at this
    simp only [old, this.1, this.2, Bool.true_and, decide_eq_true_eq]
    exact hl
/-- What a row's time was, it stays above. -/
theorem add_stays {h : H} (hs : Srt h) {s : Rc.Smp} (hn : old h s = false) {l : List Lb.Pr} {t : Int} (hr : ∃ r ∈ h, r.lab = l ∧ t ≤ r.last) : ∃ r ∈ add h s, r.lab = l ∧ t ≤ r.last := by
  obtain ⟨r, hr, e, ht⟩ := hr
  by_cases hl : r.lab = s.1
  · refine ⟨rowOf h s, rowOf_mem h s, by rw [rowOf_lab, ← hl, e], ?_⟩
    rw [rowOf_last]
    have : ¬ s.2.1 ≤ r.last := fun h1 => by
      have := (old_is hs).2 ⟨r, hr, hl, h1⟩
      rw [hn] at this; cases this
    omega
  · exact ⟨r, add_other hr hl, e, ht⟩
theorem puts_stays : ∀ {l : List Rc.Smp} {h g : H} {m : List Lb.Pr} {t : Int}, Srt h → puts h l = some g → (∃ r ∈ h, r.lab = m ∧ t ≤ r.last) → ∃ r ∈ g, r.lab = m ∧ t ≤ r.last
  | [], h, g, m, t, hs, e, hr => by simp only [puts, Option.some.injEq] at e; rw [← e]; exact hr
  | s :: l, h, g, m, t, hs, e, hr => by
    simp only [puts] at e
    split at e
    · cases e
    · rename_i ho
      exact puts_stays (hs.add s) e (add_stays hs (by simpa using ho) hr)
theorem puts_has : ∀ {l : List Rc.Smp} {h g : H} {s : Rc.Smp}, Srt h → puts h l = some g → s ∈ l → ∃ r ∈ g, r.lab = s.1 ∧ s.2.1 ≤ r.last
  | x :: l, h, g, s, hs, e, hm => by
    simp only [puts] at e
    split at e
    · cases e
    · rename_i ho
      rcases List.mem_cons.1 hm with rfl | hm
      · exact puts_stays (hs.add s) e ⟨rowOf h s, rowOf_mem h s, rowOf_lab h s, by rw [rowOf_last]; exact Int.le_refl _⟩
      · exact puts_has (hs.add x) e hm
/-- A sample a second time is too old. -/
theorem puts_twice {h g : H} {l : List Rc.Smp} (hs : Srt h) (e : puts h l = some g) {s : Rc.Smp} (hm : s ∈ l) : puts h (l ++ [s]) = none := by
  rw [puts_snoc, e]
  simp only
  rw [if_pos ((old_is (hs.puts e)).2 (puts_has hs e hm))]
/-! ### how many points -/
theorem sum_set : ∀ {l : List Nat} {i x : Nat} (hi : i < l.length), (l.set i x).sum + l[i] = l.sum + x
  | a :: l, 0, x, _ => by simp; omega
  | a :: l, i + 1, x, hi => by
    have := sum_set (l := l) (i := i) (x := x) (by simpa using hi)
    simp only [List.set_cons_succ, List.sum_cons, List.getElem_cons_succ]
    omega
theorem points_room (h : H) (l : List Lb.Pr) : points (room h l) = points h := by
  cases hn : isIn h l with
  | true => rw [room_in hn]
  | false =>
    rw [room_new hn]
    have : points h = points (h.take (ix h l)) + points (h.drop (ix h l)) := by
      simp only [points, List.map_take, List.map_drop]
      rw [← List.sum_append, List.take_append_drop]
    rw [this]
    simp [points]
theorem points_add (h : H) (s : Rc.Smp) : points (add h s) = points h + 1 := by
  have h1 := points_room h s.1
  rw [← h1]
  unfold add points
  rw [List.map_set]
  have hi : ix h s.1 < ((room h s.1).map fun r => r.pts.length).length := by simpa using room_lt h s.1
  have := sum_set (l := (room h s.1).map fun r => r.pts.length) (i := ix h s.1) (x := (grow1 s ((room h s.1)[ix h s.1]'(room_lt h s.1))).pts.length) hi
  simp only [List.getElem_map, grow1, List.length_append, List.length_singleton] at this ⊢
  omega
theorem points_puts : ∀ {l : List Rc.Smp} {h g : H}, puts h l = some g → points g = points h + l.length
  | [], h, g, e => by simp only [puts, Option.some.injEq] at e; rw [← e]; rfl
  | s :: l, h, g, e => by
    simp only [puts] at e
    split at e
    · cases e
    · rw [points_puts e, points_add, List.length_cons]; omega
/-! ### the greatest time -/
theorem tops_max : ∀ (h : H) (t : Int), ∃ m, tops (some t) h = some m ∧ t ≤ m ∧ (∀ r ∈ h, r.last ≤ m) ∧ (m = t ∨ ∃ r ∈ h, r.last = m)
  | [], t => ⟨t, rfl, Int.le_refl _, fun r hr => (by cases hr), .inl rfl⟩
  | x :: h, t => by
    obtain ⟨m, h1, h2, h3, h4⟩ := tops_max h (max t x.last)
    refine ⟨m, by rw [tops]; exact h1, by omega, fun r hr => ?_, ?_⟩
    · rcases List.mem_cons.1 hr with rfl | hr
      · omega
      · exact h3 r hr
    · rcases h4 with h4 | ⟨r, hr, h4⟩
      · by_cases hc : x.last ≤ t
        · exact .inl (by omega)
        · exact .inr ⟨x, by simp, by omega⟩
      · exact .inr ⟨r, by simp [hr], h4⟩
/-- m is the greatest time of all. -/
def IsTop (h : H) (m : Int) : Prop := (∃ r ∈ h, r.last = m) ∧ ∀ r ∈ h, r.last ≤ m
theorem top_is {h : H} {m : Int} (hm : IsTop h m) : top h = (m, true) := by
  cases h with
  | nil => obtain ⟨⟨r, hr, -⟩, -⟩ := hm; cases hr
  | cons x h =>
    obtain ⟨m', h1, h2, h3, h4⟩ := tops_max h x.last
    obtain ⟨⟨r, hr, e⟩, hall⟩ := hm
    have e1 : m' = m := by
      have ha := hall x (by simp)
      have hb : m' ≤ m := by
        rcases h4 with h4 | ⟨q, hq, h4⟩
        · omega
        · have := hall q (by simp [hq]); omega
      have hc : m ≤ m' := by
        rcases List.mem_cons.1 hr with rfl | hr
        · omega
        · have := h3 r hr; omega
      omega
    unfold top
    rw [tops, h1]
    simp [e1]
theorem top_some {h : H} (hh : h ≠ []) : ∃ m, IsTop h m := by
  cases h with
  | nil => exact absurd rfl hh
  | cons x h =>
    obtain ⟨m', h1, h2, h3, h4⟩ := tops_max h x.last
    refine ⟨m', ?_, fun r hr => ?_⟩
    · rcases h4 with h4 | ⟨q, hq, h4⟩
      · exact ⟨x, by simp, h4.symm⟩
      · exact ⟨q, by simp [hq], h4⟩
    · rcases List.mem_cons.1 hr with rfl | hr
      · exact h2
      · exact h3 r hr
theorem top_nil : top [] = (0, false) := rfl
/-- What one more sample makes of the greatest time. -/
def topf (x : Int × Bool) (s : Rc.Smp) : Int × Bool := (if x.2 = false ∨ x.1 < s.2.1 then s.2.1 else x.1, true)
theorem top_add {h : H} (hs : Srt h) {s : Rc.Smp} (hn : old h s = false) : top (add h s) = topf (top h) s := by
  by_cases hh : h = []
  · subst hh
    have : IsTop (add [] s) s.2.1 := ⟨⟨rowOf [] s, rowOf_mem [] s, rowOf_last [] s⟩, fun r hr => by
      rcases add_mem srt_nil hr with h1 | ⟨h1, -⟩
      · rw [h1, rowOf_last]; exact Int.le_refl _
      · cases h1⟩
    rw [top_is this, top_nil, topf, if_pos (.inl rfl)]
  · obtain ⟨m, hm⟩ := top_some hh
    rw [top_is hm, topf]
    obtain ⟨⟨q, hq, eq⟩, hall⟩ := hm
    have hnew : ∀ r ∈ h, r.lab = s.1 → r.last < s.2.1 := fun r hr e => by
      have : ¬ s.2.1 ≤ r.last := fun h1 => by
        have := (old_is hs).2 ⟨r, hr, e, h1⟩
        rw [hn] at this; cases this
      omega
    by_cases hc : m < s.2.1
    · simp only [hc, or_true, if_true]
      exact top_is ⟨⟨rowOf h s, rowOf_mem h s, rowOf_last h s⟩, fun r hr => by
        rcases add_mem hs hr with h1 | ⟨h1, -⟩
        · rw [h1, rowOf_last]; exact Int.le_refl _
        · have := hall r h1; omega⟩
    · simp only [hc, or_false, Bool.true_eq_false, if_false]
      refine top_is ⟨⟨q, add_other hq (fun e => by have := hnew q hq e; omega), eq⟩, fun r hr => ?_⟩
      rcases add_mem hs hr with h1 | ⟨h1, -⟩
      · rw [h1, rowOf_last]; omega
      · exact hall r h1
theorem top_puts : ∀ {l : List Rc.Smp} {h g : H}, Srt h → puts h l = some g → top g = l.foldl topf (top h)
  | [], h, g, hs, e => by simp only [puts, Option.some.injEq] at e; rw [← e]; rfl
  | s :: l, h, g, hs, e => by
    simp only [puts] at e
    split at e
    · cases e
    · rename_i ho
      rw [top_puts (hs.add s) e, top_add hs (by simpa using ho)]; rfl
theorem top_del (h : H) (ms : List Mt.M) (a b : Int) : top (del h ms a b) = top h := by
  have hlast : ∀ r, (del1 ms a b r).last = r.last := fun r => by rw [del1]; split <;> rfl
  have h1 : ∀ (h : H) (o : Option Int), tops o (del h ms a b) = tops o h := fun h => by
    induction h with
    | nil => intro o; rfl
    | cons x h ih =>
      intro o
      have e : del (x :: h) ms a b = del1 ms a b x :: del h ms a b := rfl
      cases o with
      | none => rw [e, tops, tops, hlast, ih]
      | some t => rw [e, tops, tops, hlast, ih]
  unfold top
  rw [h1]
  simp [del]
end Hd
end Go.Proofs.YtfheehlfodoimaaGreat
end

/- Layer 13, plainly: what a delete takes away from a query; how much a head grows. Names no function of the program. -/
section
set_option maxRecDepth 100000
namespace Go.Proofs.YtfheehlfodoimaaGreat
open Go.RowKit
namespace Hd
open Bit Dsk Ob Dig
set_option linter.unusedVariables false
set_option linter.unusedSimpArgs false

/-! ### how much it grows -/
theorem SaneN.less {k j : Nat} {h : H} (hh : SaneN k h) (hj : j ≤ k) : SaneN j h := ⟨by have := hh.len; omega, fun r hr => by have := hh.pts r hr; omega, hh.lab⟩
theorem SaneN.nil {k : Nat} (hk : k ≤ 1000000000) : SaneN k [] := ⟨by simpa using hk, fun r hr => (by cases hr), fun r hr => (by cases hr)⟩
theorem SaneN.puts : ∀ {l : List Rc.Smp} {k : Nat} {h g : H}, SaneN (k + l.length) h → (∀ x ∈ l, x.1.length ≤ 1000000000) → Hd.puts h l = some g → SaneN k g
  | [], k, h, g, hh, hl, e => by simp only [Hd.puts, Option.some.injEq] at e; rw [← e]; exact hh
  | s :: l, k, h, g, hh, hl, e => by
    simp only [Hd.puts] at e
    split at e
    · cases e
    · have h1 : SaneN (k + l.length + 1) h := hh.less (by rw [List.length_cons]; omega)
      exact SaneN.puts (h1.add (hl s (by simp))) (fun x hx => hl x (by simp [hx])) e
theorem without_len (l : List Pt) (a b : Int) : (without l a b).length ≤ l.length := List.length_filter_le _ _
theorem SaneN.del {k : Nat} {h : H} (hh : SaneN k h) (ms : List Mt.M) (a b : Int) : SaneN k (del h ms a b) := by
  have h1 : ∀ r, (del1 ms a b r).pts.length ≤ r.pts.length ∧ (del1 ms a b r).lab = r.lab := fun r => by
    rw [del1]; split
    · exact ⟨without_len _ _ _, rfl⟩
    · exact ⟨Nat.le_refl _, rfl⟩
  refine ⟨by simpa [Hd.del] using hh.len, fun r hr => ?_, fun r hr => ?_⟩
  · obtain ⟨x, hx, rfl⟩ := List.mem_map.1 hr
    have := hh.pts x hx; have := (h1 x).1; omega
  · obtain ⟨x, hx, rfl⟩ := List.mem_map.1 hr
    rw [(h1 x).2]; exact hh.lab x hx
theorem SaneN.app {k : Nat} {h : H} {r : Rc.R} (hh : SaneN (k + r.smp.length) h) (hl : ∀ x ∈ r.smp, x.1.length ≤ 1000000000) : SaneN k (app h r) := by
  unfold Hd.app
  split
  · exact hh.less (by omega)
  · split
    · exact (hh.less (by omega)).del _ _ _
    · cases hp : Hd.puts h r.smp with
      | none => exact hh.less (by omega)
      | some g => exact hh.puts hl hp
theorem points_le {k : Nat} {h : H} (hh : SaneN k h) : points h ≤ h.length * 1000000000 := by
  have : ∀ h : H, (∀ r ∈ h, r.pts.length ≤ 1000000000) → points h ≤ h.length * 1000000000 := fun h => by
    induction h with
    | nil => intro _; simp [points]
    | cons x h ih =>
      intro hx
      have h1 := ih fun r hr => hx r (by simp [hr])
      have h2 := hx x (by simp)
      have e : points (x :: h) = x.pts.length + points h := rfl
      rw [e, List.length_cons, Nat.succ_mul]; omega
  exact this h fun r hr => by have := hh.pts r hr; omega
/-! ### what a delete took away -/
/-- Points that are not among others. -/
def lessL (a b : List Pt) : List Pt := a.filter fun p => decide (p ∉ b)
/-- A series' points without those of the series of the same labels. -/
def cutB (gone : List Ser) (lab : List Lb.Pr) (ps : List Pt) : List Pt := gone.foldl (fun ps y => if y.1 = lab then lessL ps y.2 else ps) ps
def wantL (was gone : List Ser) : List Ser := (was.map fun x => (x.1, cutB gone x.1 x.2)).filter fun x => decide (x.2 ≠ [])
theorem cutB_none : ∀ (gone : List Ser) (lab : List Lb.Pr) (ps : List Pt), (∀ y ∈ gone, y.1 ≠ lab) → cutB gone lab ps = ps
  | [], _, _, _ => rfl
  | y :: gone, lab, ps, h => by
    unfold cutB
    rw [List.foldl_cons, if_neg (h y (by simp))]
    exact cutB_none gone lab ps fun z hz => h z (by simp [hz])
theorem cutB_app (g1 g2 : List Ser) (lab : List Lb.Pr) (ps : List Pt) : cutB (g1 ++ g2) lab ps = cutB g2 lab (cutB g1 lab ps) := by unfold cutB; rw [List.foldl_append]
theorem query_lab {h : H} {ms : List Mt.M} {a b : Int} {y : Ser} (hy : y ∈ query h ms a b) : ∃ r ∈ h, r.lab = y.1 := by
  unfold query at hy
  obtain ⟨r, hr, h1⟩ := List.mem_flatMap.1 hy
  unfold ask1 at h1
  split at h1
  · rw [List.mem_singleton] at h1; exact ⟨r, hr, by rw [h1]⟩
  · cases h1
theorem cutB_row {h : H} (hs : Srt h) {r : Row} (hr : r ∈ h) (ms : List Mt.M) (a b : Int) (ps : List Pt) : cutB (query h ms a b) r.lab ps = if within r.pts a b ≠ [] ∧ Mt.is ms r.lab = true then lessL ps (within r.pts a b) else ps := by
  obtain ⟨g1, g2, rfl⟩ := List.append_of_mem hr
  have hs2 : (labs g1 ++ r.lab :: labs g2).Pairwise Lt := by have := hs; unfold Srt labs at this; simpa [labs] using this
  rw [List.pairwise_append, List.pairwise_cons] at hs2
  obtain ⟨-, ⟨h2, -⟩, h3⟩ := hs2
  have e : query (g1 ++ r :: g2) ms a b = query g1 ms a b ++ (ask1 ms a b r ++ query g2 ms a b) := by simp [query]
  rw [e, cutB_app, cutB_app]
  have k1 : cutB (query g1 ms a b) r.lab ps = ps := cutB_none _ _ _ fun y hy => by
    obtain ⟨q, hq, e⟩ := query_lab hy
    rw [← e]
    exact lt_ne (h3 q.lab (List.mem_map.2 ⟨q, hq, rfl⟩) r.lab (by simp))
  have k2 : ∀ ps, cutB (query g2 ms a b) r.lab ps = ps := fun ps => cutB_none _ _ _ fun y hy => by
    obtain ⟨q, hq, e⟩ := query_lab hy
    rw [← e]
    exact (lt_ne (h2 q.lab (List.mem_map.2 ⟨q, hq, rfl⟩))).symm
  rw [k1, k2]
  unfold ask1
  by_cases hc : within r.pts a b ≠ [] ∧ Mt.is ms r.lab = true
  · rw [if_pos hc, if_pos hc]
    simp [cutB]
  · rw [if_neg hc, if_neg hc]
    simp [cutB]
theorem less_within (l : List Pt) (a b da db : Int) : lessL (within l a b) (within l da db) = within (without l da db) a b := by
  unfold lessL within without
  rw [List.filter_filter, List.filter_filter]
  refine List.filter_congr fun p hp => ?_
  have h1 : p ∈ l.filter (fun p => decide (da ≤ p.1) && decide (p.1 ≤ db)) ↔ da ≤ p.1 ∧ p.1 ≤ db := by
    rw [List.mem_filter]; simp [hp]
  by_cases c : da ≤ p.1 ∧ p.1 ≤ db
  · have e1 : decide (p ∉ l.filter (fun p => decide (da ≤ p.1) && decide (p.1 ≤ db))) = false := decide_eq_false (fun k => k (h1.2 c))
    rw [e1, decide_eq_false (by omega : ¬ p.1 < da), decide_eq_false (by omega : ¬ db < p.1)]
    simp
  · have e1 : decide (p ∉ l.filter (fun p => decide (da ≤ p.1) && decide (p.1 ≤ db))) = true := decide_eq_true (fun k => c (h1.1 k))
    have e2 : (decide (p.1 < da) || decide (db < p.1)) = true := by
      simp only [Bool.or_eq_true, decide_eq_true_eq]; omega
    rw [e1, e2]
    simp
theorem less_nil (l : List Pt) : lessL l [] = l := by unfold lessL; simp
/-- What was, without what is gone, is what is told behind the delete. -/
theorem want_is {h : H} (hs : Srt h) (qm dm : List Mt.M) (qa qb da db : Int) : wantL (query h qm qa qb) (query h dm da db) = query (del h dm da db) qm qa qb := by
  have key : ∀ g : H, (∀ r ∈ g, r ∈ h) → wantL (query g qm qa qb) (query h dm da db) = query (del g dm da db) qm qa qb := fun g => by
    induction g with
    | nil => intro _; rfl
    | cons r g ih =>
      intro hg
      have ih' := ih fun x hx => hg x (by simp [hx])
      have e1 : query (r :: g) qm qa qb = ask1 qm qa qb r ++ query g qm qa qb := rfl
      have e2 : query (del (r :: g) dm da db) qm qa qb = ask1 qm qa qb (del1 dm da db r) ++ query (del g dm da db) qm qa qb := rfl
      have e3 : wantL (ask1 qm qa qb r ++ query g qm qa qb) (query h dm da db) = wantL (ask1 qm qa qb r) (query h dm da db) ++ wantL (query g qm qa qb) (query h dm da db) := by
        unfold wantL; rw [List.map_append, List.filter_append]
      rw [e1, e2, e3, ih']
      congr 1
      have hcut := cutB_row hs (hg r (by simp)) dm da db
      have hlab : (del1 dm da db r).lab = r.lab := by rw [del1]; split <;> rfl
      by_cases hq : Mt.is qm r.lab = true
      · -- what is left of this row
        have hleft : cutB (query h dm da db) r.lab (within r.pts qa qb) = within (del1 dm da db r).pts qa qb := by
          rw [hcut, del1]
          by_cases hd : Mt.is dm r.lab = true
          · rw [if_pos hd]
            simp only [hd, and_true]
            by_cases hn : within r.pts da db = []
            · rw [if_neg (by simp [hn]), ← less_within, hn, less_nil]
            · rw [if_pos hn, less_within]
          · rw [if_neg hd, if_neg (fun k => hd k.2)]
        unfold ask1
        simp only [hlab, hq, and_true]
        by_cases hp : within r.pts qa qb = []
        · have hw : within (del1 dm da db r).pts qa qb = [] := by
            rw [← hleft, hp]
            rw [hcut]
            split
            · rfl
            · rfl
          rw [if_neg (by simp [hp]), if_neg (by simp [hw])]
          rfl
        · rw [if_pos hp]
          unfold wantL
          simp only [List.map_cons, List.map_nil, hleft]
          by_cases hw : within (del1 dm da db r).pts qa qb = []
          · rw [if_neg (by simp [hw])]; simp [hw]
          · rw [if_pos hw]; simp [hw]
      · unfold ask1
        simp only [hlab]
        rw [if_neg (fun k => hq k.2), if_neg (fun k => hq k.2)]
        rfl
  exact key h fun _ hr => hr
/-- What a delete took away no query tells. -/
theorem gone_is (h : H) (ms : List Mt.M) (a b : Int) : query (del h ms a b) ms a b = [] := by
  induction h with
  | nil => rfl
  | cons r h ih =>
    have e2 : query (del (r :: h) ms a b) ms a b = ask1 ms a b (del1 ms a b r) ++ query (del h ms a b) ms a b := rfl
    rw [e2, ih, List.append_nil]
    have hlab : (del1 ms a b r).lab = r.lab := by rw [del1]; split <;> rfl
    unfold ask1
    rw [if_neg]
    rintro ⟨h1, h2⟩
    rw [hlab] at h2
    rw [del1, if_pos h2] at h1
    refine h1 ?_
    simp only
    rw [← less_within]
    unfold lessL
    rw [List.filter_eq_nil_iff]
    intro p hp
    simp [hp]
end Hd
end Go.Proofs.YtfheehlfodoimaaGreat
end

/- The document's head (layer 13): Apply, what it does to the rows. -/
section
set_option maxRecDepth 100000
namespace Go.Proofs.YtfheehlfodoimaaGreat
open Go.RowKit Go.Sort
open Bit Dsk Ob Dig
namespace Hd
set_option linter.unusedVariables false
set_option linter.unusedSimpArgs false

/-- The first j rows are done. -/
def dl (ms : List Mt.M) (a b : Int) (h : H) (j : Nat) : H := (h.take j).map (del1 ms a b) ++ h.drop j
theorem dl_zero (ms : List Mt.M) (a b : Int) (h : H) : dl ms a b h 0 = h := by simp [dl]
theorem dl_len (ms : List Mt.M) (a b : Int) (h : H) {j : Nat} (hj : j ≤ h.length) : (dl ms a b h j).length = h.length := by simp [dl]; omega
theorem dl_end (ms : List Mt.M) (a b : Int) (h : H) : dl ms a b h h.length = del h ms a b := by simp [dl, del]
theorem dl_at (ms : List Mt.M) (a b : Int) (h : H) {j : Nat} (hj : j < h.length) (hk : j < (dl ms a b h j).length) : (dl ms a b h j)[j] = h[j] := by
  simp only [dl]
  rw [List.getElem_append_right (by simp; omega)]
  simp [Nat.min_eq_left (Nat.le_of_lt hj)]
theorem dl_step (ms : List Mt.M) (a b : Int) (h : H) {j : Nat} (hj : j < h.length) : dl ms a b h (j + 1) = (dl ms a b h j).set j (del1 ms a b h[j]) := by
  have hl : ((h.take j).map (del1 ms a b)).length = j := by simp; omega
  simp only [dl]
  rw [List.take_succ_eq_append_getElem hj, List.map_append, List.set_append_right _ _ (by omega), hl, Nat.sub_self, List.drop_eq_getElem_cons hj, List.set_cons_zero]
  simp
theorem dl_same (ms : List Mt.M) (a b : Int) (h : H) {j : Nat} (hj : j < h.length) (hi : Mt.is ms h[j].lab = false) : dl ms a b h (j + 1) = dl ms a b h j := by
  rw [dl_step ms a b h hj, del1, if_neg (by rw [hi]; decide)]
  have hk : j < (dl ms a b h j).length := by rw [dl_len ms a b h (Nat.le_of_lt hj)]; exact hj
  conv => lhs; rw [← dl_at ms a b h hj hk]
  exact List.set_getElem_self hk
set_option maxHeartbeats 1600000 in
/-- Row i's points are others, that lie in new blocks. -/
theorem HeadR.trade {w W : World} {A R : Nat → Prop} {p : Nat} {u : Rw.Sl} {rs : List RR} {h : H} (hh : HeadR w A R p u rs h) (hW : New0 w W) {i : Nat} (hi : i < h.length) {gb c : Nat} (hu : u = ⟨some ⟨gb, 0, none⟩, h.length, c⟩) (hr : i < rs.length) {t' : Rw.Sl} {m : List Pt}
    (hm : PMine W t'.v m) (hb : ∀ b, t'.v.ownBlock = some b → w.heap.size ≤ b) :
    ∃ A' rs', HeadR (W.setCell ⟨gb, i * 3 + 1, none⟩ t'.v) A' R p u rs' (h.set i ⟨h[i].lab, m, h[i].last⟩) ∧ (∀ b, A b → A' b) ∧ (∀ b, A' b → A b ∨ w.heap.size ≤ b) ∧ Upon A w (W.setCell ⟨gb, i * 3 + 1, none⟩ t'.v) := by
  have hlr := hh.rows.len
  have hW2 := hh.new hW
  have hrow := hW2.row
  have huv : u.v = .slice (some ⟨gb, 0, none⟩) h.length c := by rw [hu]
  rw [huv] at hrow
  obtain ⟨csr, hgb⟩ := hrow.typ (g := gb) rfl
  have hgbA : A gb := hh.uA gb (by rw [huv]; rfl)
  have hpg : p ≠ gb := typ_ne ne_HR hW2.box hgb
  have hne : ∀ b, t'.v.ownBlock = some b → ∀ k (k1 : k < rs.length), k ≠ i → rs[k].pts.v.ownBlock ≠ some b := fun b hb2 k k1 hk e => by
    have h1 := hb b hb2
    have := Rw.Mine.lt (hh.rows.pts k k1 (by omega)) e; omega
  have hrx := hW2.rows.setPts hi (w' := W) (A' := fun b => A b ∨ t'.v.ownBlock = some b) (R := R) (t := t') (m := m)
    (fun k k1 k2 => hW2.rows.lab k k1 k2) (fun k k1 k2 hk => hW2.rows.pts k k1 k2)
    (fun k k1 b hk hb => .inl (hh.rows.own k k1 b hb)) hm (fun b hb => .inr hb) hne hr
  have hu1 : Upon (fun b => b = gb) W (W.setCell ⟨gb, i * 3 + 1, none⟩ t'.v) := Upon.setCell (S := fun b => b = gb) (p := ⟨gb, i * 3 + 1, none⟩) (Upon.refl _ W) (.inl rfl) _
  have hr1 : RMine (W.setCell ⟨gb, i * 3 + 1, none⟩ t'.v) (.slice (some ⟨gb, 0, none⟩) h.length c) (rs.set i ⟨rs[i].lab, t', rs[i].last⟩) := Rw.Mine.set hrow hlr.symm hr (t := 1) (by decide) rfl
  have hgbR : ∀ b, R b → ¬ b = gb := fun b hb e => hh.dis gb hgbA (e ▸ hb)
  have hA'g : ∀ k (k1 : k < (rs.set i ⟨rs[i].lab, t', rs[i].last⟩).length) (k2 : k < (h.set i ⟨h[i].lab, m, h[i].last⟩).length) b, (rs.set i ⟨rs[i].lab, t', rs[i].last⟩)[k].pts.v.ownBlock = some b → ¬ b = gb := fun k k1 k2 b hb e => by
    obtain ⟨cs, h3⟩ := (hrx.pts k k1 k2).typ hb
    subst e
    exact typ_ne ne_RP hgb h3 rfl
  have hrz : RowsR (W.setCell ⟨gb, i * 3 + 1, none⟩ t'.v) (fun b => A b ∨ t'.v.ownBlock = some b) R (rs.set i ⟨rs[i].lab, t', rs[i].last⟩) (h.set i ⟨h[i].lab, m, h[i].last⟩) :=
    ⟨hrx.len, fun k k1 k2 => Rw.View.upon (hrx.lab k k1 k2) hu1 (fun b hb e => hgbR b hb e), fun k k1 k2 => Rw.Mine.upon (hrx.pts k k1 k2) hu1 (fun b hb e => hA'g k k1 k2 b hb e), hrx.last, hrx.own, hrx.apart⟩
  have hupA : Upon A w (W.setCell ⟨gb, i * 3 + 1, none⟩ t'.v) := Upon.setCell (p := ⟨gb, i * 3 + 1, none⟩) (hW.mono fun _ _ f => f.elim) (.inl hgbA) _
  refine ⟨fun b => A b ∨ t'.v.ownBlock = some b, _, ⟨?_, ?_, hrz, .inl hh.pA, fun b hb => .inl (hh.uA b hb), fun b hb2 hR => ?_, fun b hb2 => ?_⟩, fun b hb => .inl hb, fun b hb2 => ?_, hupA⟩
  · exact (hu1.block p (Array.getElem?_eq_some_iff.1 hW2.box).1 hpg).trans hW2.box
  · rw [huv]; exact hr1
  · rcases hb2 with hb2 | hb2
    · exact hh.dis b hb2 hR
    · have h1 := hb b hb2
      have := hh.lt b (.inr hR); omega
  · have q1 := hupA.size
    have q2 := hu1.size
    rcases hb2 with (hb2 | hb2) | hb2
    · have := hh.lt b (.inl hb2); omega
    · have := Rw.Mine.lt hm hb2; omega
    · have := hh.lt b (.inr hb2); omega
  · rcases hb2 with hb2 | hb2
    · exact .inl hb2
    · exact .inr (hb b hb2)
end Hd
end Go.Proofs.YtfheehlfodoimaaGreat
end
