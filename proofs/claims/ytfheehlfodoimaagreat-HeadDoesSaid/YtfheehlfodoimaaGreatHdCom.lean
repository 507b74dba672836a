/- The program's head (layer 13): commit. -/
import Derived.Test.YtfheehlfodoimaaGreatHdInt
import Derived.Test.YtfheehlfodoimaaGreatPRc1
set_option maxRecDepth 100000
namespace Go.Proofs.YtfheehlfodoimaaGreat
open Go.RowKit Go.Sort
namespace Hd
open Bit Dsk Ob Dig Nm
set_option linter.unusedVariables false
set_option linter.unusedSimpArgs false
theorem Inv.add {g : H} (hi : Inv g) {s : Rc.Smp} (hn : old g s = false) (hl : Lb.Ok s.1) (hb : -9223372036854775808 ≤ s.2.1 ∧ s.2.1 ≤ 9223372036854775807) (hs : Srt g) : Inv (add g s) := by
  have k : ∀ r ∈ Hd.add g s, r = rowOf g s ∨ r ∈ g := fun r hr => (add_mem hs hr).imp id fun h => h.1
  have hr : ∀ x ∈ ((room g s.1)[ix g s.1]'(room_lt g s.1)).pts, x.1 < s.2.1 := fun x hx => by
    cases hin : isIn g s.1 with
    | true =>
      obtain ⟨h1, h2⟩ := room_at.2.1 hin
      have h3 := hi.most _ h1 x hx
      rw [h2] at h3
      rw [old, hin, Bool.true_and] at hn
      have := of_decide_eq_false hn
      omega
    | false => rw [room_at.2.2 hin] at hx; cases hx
  have hp : ((room g s.1)[ix g s.1]'(room_lt g s.1)).pts.Pairwise fun a b => a.1 < b.1 := by
    cases hin : isIn g s.1 with
    | true => exact hi.rise _ (room_at.2.1 hin).1
    | false => rw [room_at.2.2 hin]; exact List.Pairwise.nil
  refine ⟨fun r hr => ?_, fun r hr => ?_, fun r hr => ?_, fun r hr => ?_⟩
  · rcases k r hr with rfl | h1
    · rw [rowOf_lab]; exact hl
    · exact hi.ok r h1
  · rcases k r hr with rfl | h1
    · show List.Pairwise _ (_ ++ [(s.2.1, s.2.2)])
      rw [List.pairwise_append]
      exact ⟨hp, List.pairwise_singleton _ _, fun a ha c hc => by rw [List.mem_singleton] at hc; subst hc; exact (by assumption : ∀ x ∈ _, x.1 < s.2.1) a ha⟩
    · exact hi.rise r h1
  · rcases k r hr with rfl | h1
    · intro x hx
      rcases List.mem_append.1 (show x ∈ _ ++ [(s.2.1, s.2.2)] from hx) with h2 | h2
      · exact Int.le_of_lt ((by assumption : ∀ x ∈ _, x.1 < s.2.1) x h2)
      · rw [List.mem_singleton] at h2; subst h2; exact Int.le_refl _
    · exact hi.most r h1
  · rcases k r hr with rfl | h1
    · exact hb
    · exact hi.wf r h1
/-- What a change of the head leaves. -/
def CmE (w w' : World) (A R : Nat → Prop) (p b : Nat) (g : H) : Prop :=
  ∃ A' R' N' bs' rs', HeadP w' A' R' p b N' bs' rs' g ∧ (∀ k, A k → A' k) ∧ (∀ k, A' k → A k ∨ w.heap.size ≤ k) ∧ (∀ k, R' k → R k ∨ w.heap.size ≤ k) ∧ Upon A w w'
section
variable {A R : Nat → Prop} {p b : Nat} {N : Nms} {bs : List Nat} {rs : List RR} {h : H}
set_option maxHeartbeats 6400000 in
theorem commit_any (w : World) (hh : HeadP w A R p b N bs rs h) (hs : Srt h) (T : Nat → Prop) (v : Value) (smp : List Rc.Smp) (hv : Rc.SView w T v smp) (hTA : ∀ k, T k → ¬ A k) (hb : ∀ x ∈ smp, Rc.BndS x) (hok : ∀ x ∈ smp, Lb.Ok x.1) {gf : H} (hgf : puts h smp = some gf) (hsane : SaneN smp.length h) :
    Calls Tryz.prog 19 #[.pointer (some ⟨p, 0, none⟩), v] w fun e w' => e = .returned (.tuple #[]) ∧ CmE w w' A R p b gf := by
  obtain ⟨As, cs, rfl, -, -⟩ := Rw.DView.shape hv
  have hTlt := fun k => hh.lt k
  have HV : Hid (∀ w1, Upon A w w1 → Rc.SView w1 T (.slice As smp.length cs) smp) := Lib.hid (fun w1 hu => Rw.DView.upon hv hu hTA)
  have hC0 : Hid (CmE w w A R p b h) := Lib.hid ⟨A, R, N, bs, rs, hh, fun _ k => k, fun _ k => .inl k, fun _ k => .inl k, Upon.refl _ _⟩
  have hfew : smp.length ≤ 1000000000 := by have := hsane.len; omega
  replace hs := Lib.hid hs
  replace hb := Lib.hid hb
  replace hok := Lib.hid hok
  replace hgf := Lib.hid hgf
  replace hsane := Lib.hid hsane
  clear hh hv hTA hTlt
  go_enter Tryz.func19, Tryz.ntmps19
  go_wp2_with fail
  go_loopw [8] (fun iv wr => ∃ (j : Nat) (g : H), iv = .int .i64 (j : Int) ∧ j ≤ smp.length ∧ Hid (puts h (smp.take j) = some g) ∧ Hid (SaneN (smp.length - j) g) ∧ Hid (CmE w wr A R p b g)) (fun iv _ => smp.length - (intOf iv).toNat)
  case atStart => exact ⟨0, h, rfl, Nat.zero_le _, Lib.hid rfl, Lib.hid hsane.out, hC0⟩
  case round =>
    clear hC0
    obtain ⟨j, g, rfl, hj, hputs, hsn, hcm⟩ := hrel
    by_cases hlt : j < smp.length
    · obtain ⟨A1, R1, N1, bs1, rs1, hg, e1, e2, e3, hup⟩ := hcm.out
      obtain ⟨bq, off, hAs, hbl, hcells⟩ := Rc.SView.cells (HV.out wr hup) (by omega)
      obtain ⟨⟨la, ln, lc⟩, hlv, d0, d1, d2⟩ := hcells j hlt
      subst hAs
      have hbx := hb.out _ (List.getElem_mem hlt)
      have hox := hok.out _ (List.getElem_mem hlt)
      obtain ⟨hno, hnx⟩ := puts_one hlt hputs.out hgf.out
      obtain ⟨⟨l, t, qq⟩, hsj⟩ : ∃ s, smp[j] = s := ⟨_, rfl⟩
      rw [hsj] at hlv d1 d2 hbx hox hno hnx
      simp only at hlv d1 d2 hox
      replace d0 : wr.cell? ⟨bq, off + j * 3, none⟩ = some (.slice la ln lc) := d0
      have hln : ln = l.length := by
        obtain ⟨A2, c2, e2, -, -⟩ := Rw.View.shape hlv
        injection e2
      subst hln
      obtain ⟨hsm, -, ht1, ht2, -⟩ := hbx
      have hsg := hs.out.puts hputs.out
      have hsn2 : SaneN (smp.length - (j + 1) + 1) g := by have := hsn.out; rwa [show smp.length - (j + 1) + 1 = smp.length - j by omega]
      have hl8 : l.length ≤ 1000000000 := by have := hox.few; omega
      have hsa := Lib.hid (hsn2.add (s := (l, t, qq)) hl8)
      have hgl : g.length ≤ 1000000000 := by have := hsn2.len; omega
      have hplen : ((room g l)[ix g l]'(room_lt g l)).pts.length ≤ 1000000000 := by have := (hsn2.room hl8 _ (List.getElem_mem (room_lt g l))).1; omega
      have hia : Hid (Inv (add g (l, t, qq))) := Lib.hid (hg.inv.add hno hox ⟨ht1, ht2⟩ hsg)
      have ux := (Upon.refl (fun _ => False) wr).alloc (.cells #[.slice la l.length lc, .int .i64 t, .int .u64 (qq : Int)] 42 (0, 0))
      have hX : Rw.Blk3 42 wr.heap.size (.slice la l.length lc) (.int .i64 t) (.int .u64 (qq : Int)) (wr.alloc (.cells #[.slice la l.length lc, .int .i64 t, .int .u64 (qq : Int)] 42 (0, 0))) := cell_new wr _
      have hXu : Hid (∀ w1, Upon A1 (wr.alloc (.cells #[.slice la l.length lc, .int .i64 t, .int .u64 (qq : Int)] 42 (0, 0))) w1 → w1.cell? ⟨wr.heap.size, 0, none⟩ = some (.slice la l.length lc) ∧ w1.cell? ⟨wr.heap.size, 1, none⟩ = some (.int .i64 t) ∧ w1.cell? ⟨wr.heap.size, 2, none⟩ = some (.int .u64 (qq : Int))) := Lib.hid (fun w1 hu => (hX.upon hu (fun e => by have := hg.lt _ (.inl e); omega)).cells)
      obtain ⟨x0, x1, x2⟩ := hX.cells
      obtain ⟨W, hW⟩ : ∃ W, wr.alloc (.cells #[.slice la l.length lc, .int .i64 t, .int .u64 (qq : Int)] 42 (0, 0)) = W := ⟨_, rfl⟩
      have HI : Hid (∀ w1, New0 W w1 → Calls Tryz.prog 41 #[.pointer (some ⟨p, 0, none⟩), .slice la l.length lc] w1 fun e w' => ∃ s, e = .returned (.pointer (some ⟨s, 0, none⟩)) ∧ InE w1 w' A1 R1 p b g l s) := Lib.hid (fun w1 hu => intern_any w1 (hg.new (ux.trans (hW ▸ hu))) hsg hgl T (.slice la l.length lc) l (Rw.View.new hlv (ux.trans (hW ▸ hu))) hsm hox)
      rw [hW] at ux hXu
      have hfin : Hid (∀ w1 w2 w3 A2 R2 N2 bs2 rs2, New0 W w1 → Upon A1 w1 w2 → (∀ k, A1 k → A2 k) → (∀ k, A2 k → A1 k ∨ w1.heap.size ≤ k) → (∀ k, R2 k → R1 k ∨ w1.heap.size ≤ k) → HeadP w2 A2 R2 p b N2 bs2 rs2 (room g l) → ChgE w2 w3 A2 R2 p b N2 bs2 (add g (l, t, qq)) → CmE w w3 A R p b (add g (l, t, qq))) := Lib.hid (by
        rintro w1 w2 w3 A2 R2 N2 bs2 rs2 hu1 hu2 f1 f2 f3 - ⟨⟨A3, rs3, g1, g2, g3⟩, hu3⟩
        have q1 := hup.size
        have q2 := (ux.trans hu1).size
        have q3 := hu2.size
        refine ⟨A3, R2, _, _, _, g1, fun k hk => g2 k (f1 k (e1 k hk)), fun k hk => ?_, fun k hk => ?_, ?_⟩
        · rcases g3 k hk with h1 | h1
          · rcases f2 k h1 with h2 | h2
            · exact e2 k h2
            · exact .inr (by omega)
          · exact .inr (by omega)
        · rcases f3 k hk with h1 | h1
          · exact e3 k h1
          · exact .inr (by omega)
        · refine ((hup.trans' ((ux.trans hu1)) (fun _ _ f => f.elim)).trans' hu2 (fun k k1 k2 => ?_)).trans' hu3 (fun k k1 k2 => ?_)
          · rcases e2 k k2 with h1 | h1
            · exact h1
            · omega
          · rcases f2 k k2 with h1 | h1
            · rcases e2 k h1 with h2 | h2
              · exact h2
              · omega
            · omega)
      replace hcm := Lib.hid hup
      replace hnx := Lib.hid hnx
      replace hX := Lib.hid hX
      replace hg := Lib.hid hg
      replace hplen := Lib.hid hplen
      clear hlv hcells hsj hsm hox hno hsg hsn2 hup e1 e2 e3 hputs hsn
      replace hW := Lib.hid hW
      go_wp2_with fail
      rw [hW.out]
      clear x0 x1 x2 hX d0 d1 d2
      · skip
        refine HeldS.wp_region_S 9 (S := fun w' => w'.cell? ⟨wr.heap.size, 0, none⟩ = some (.slice la l.length lc) ∧ w'.cell? ⟨wr.heap.size, 1, none⟩ = some (.int .i64 t) ∧ w'.cell? ⟨wr.heap.size, 2, none⟩ = some (.int .u64 (qq : Int))) (by kernel_rfl) (hXu.out _ ((Upon.refl _ W).drew)) (fun hHeld => ?_)
        refine HeldS.wpAnyS_take (i := 0) [3] (oi := _) (v := ?_) rfl (by kernel_rfl) (by kernel_rfl) (by kernel_rfl) (by kernel_rfl) (by kernel_rfl) (fun _ _ _ h => h) (Or.inl ⟨by rfl, ?_⟩) (by assumption) ?_
        rotate_left
        · (intro w hSw; (try dsimp only at hSw); go_simp; (try with_reducible rfl))
        (try simp only [Act.put, List.setIfInBounds_toArray, List.set_cons_zero, List.set_cons_succ])
        refine HeldS.wpAnyS_take (i := 1) [3, 2] (oi := _) (v := ?_) rfl (by kernel_rfl) (by kernel_rfl) (by kernel_rfl) (by kernel_rfl) (by kernel_rfl) (fun _ _ _ h => h) (Or.inl ⟨by rfl, ?_⟩) (by assumption) ?_
        rotate_left
        · (intro w hSw; (try dsimp only at hSw); go_simp; (try with_reducible rfl))
        (try simp only [Act.put, List.setIfInBounds_toArray, List.set_cons_zero, List.set_cons_succ])
        refine HeldS.wpAnyS_take (i := 2) [3] (oi := _) (v := ?_) rfl (by kernel_rfl) (by kernel_rfl) (by kernel_rfl) (by kernel_rfl) (by kernel_rfl) (fun _ _ _ h => h) (Or.inl ⟨by rfl, ?_⟩) (by assumption) ?_
        rotate_left
        · (intro w hSw; (try dsimp only at hSw); go_simp; (try with_reducible rfl))
        (try simp only [Act.put, List.setIfInBounds_toArray, List.set_cons_zero, List.set_cons_succ])
        refine HeldS.wpAnyS_take (i := 4) [8, 5] (oi := _) (v := ?_) rfl (by kernel_rfl) (by kernel_rfl) (by kernel_rfl) (by kernel_rfl) (by kernel_rfl) (fun _ _ _ h => h) (Or.inl ⟨by rfl, ?_⟩) (by assumption) ?_
        rotate_left
        · (intro w hSw; (try dsimp only at hSw); go_simp; (try with_reducible rfl))
        (try simp only [Act.put, List.setIfInBounds_toArray, List.set_cons_zero, List.set_cons_succ])
        refine HeldS.wpAnyS_take (i := 5) [8] (oi := _) (v := ?_) rfl (by kernel_rfl) (by kernel_rfl) (by kernel_rfl) (by kernel_rfl) (by kernel_rfl) (fun _ _ _ h => h) (Or.inl ⟨by rfl, ?_⟩) (by assumption) ?_
        rotate_left
        · (intro w hSw; (try dsimp only at hSw); go_simp; (try with_reducible rfl))
        (try simp only [Act.put, List.setIfInBounds_toArray, List.set_cons_zero, List.set_cons_succ])
        refine HeldS.wpAnyS_take (i := 6) [8, 7] (oi := _) (v := ?_) rfl (by kernel_rfl) (by kernel_rfl) (by kernel_rfl) (by kernel_rfl) (by kernel_rfl) (fun _ _ _ h => h) (Or.inl ⟨by rfl, ?_⟩) (by assumption) ?_
        rotate_left
        · (intro w hSw; (try dsimp only at hSw); go_simp; (try with_reducible rfl))
        (try simp only [Act.put, List.setIfInBounds_toArray, List.set_cons_zero, List.set_cons_succ])
        refine HeldS.wpAnyS_take (i := 7) [8] (oi := _) (v := ?_) rfl (by kernel_rfl) (by kernel_rfl) (by kernel_rfl) (by kernel_rfl) (by kernel_rfl) (fun _ _ _ h => h) (Or.inl ⟨by rfl, ?_⟩) (by assumption) ?_
        rotate_left
        · (intro w hSw; (try dsimp only at hSw); go_simp; (try with_reducible rfl))
        (try simp only [Act.put, List.setIfInBounds_toArray, List.set_cons_zero, List.set_cons_succ])
        refine HeldS.wpAnyS_take (i := 8) [] (oi := _) (v := ?_) rfl (by kernel_rfl) (by kernel_rfl) (by kernel_rfl) (by kernel_rfl) (by kernel_rfl) (fun _ _ _ h => h) (Or.inl ⟨by rfl, ?_⟩) (by assumption) ?_
        rotate_left
        · (intro w hSw; (try dsimp only at hSw); go_simp; (try with_reducible rfl))
        (try simp only [Act.put, List.setIfInBounds_toArray, List.set_cons_zero, List.set_cons_succ])
        refine HeldS.wpAnyS_ready (rs := [3]) (by kernel_rfl) (by simp) ?_
        refine HeldS.AllS.cons (o := ⟨some 15, _, _, _, _, _⟩) rfl (fun K hK => ?_) HeldS.AllS.nil
        go_simp
        go_at_call 41
        refine (HI.out _ (by repeat (first | assumption | exact Upon.refl _ _ | refine Upon.drew ?_ | refine Upon.alloc ?_ _))).mono ?_
        rintro e w5 ⟨s, rfl, A2, R2, N2, bs2, rs2, hh2, ⟨hb2, hs2⟩, f1, f2, f3, hu2⟩
        have hS5 := hXu.out w5 (((Upon.refl _ W).drew).trans hu2)
        have HP : Hid (Calls Tryz.prog 42 #[.pointer (some ⟨s, 0, none⟩), .agg #[.int .i64 t, .int .u64 (qq : Int)]] w5 fun e w' => e = .returned (.tuple #[]) ∧ ChgE w5 w' A2 R2 p b N2 bs2 (add g (l, t, qq))) := Lib.hid (sput_any w5 hh2 (room_lt g l) hb2 s hs2 t qq hplen.out hia.out)
        have hf5 := Lib.hid (fun w3 k => hfin.out _ w5 w3 A2 R2 N2 bs2 rs2 (by repeat (first | assumption | exact Upon.refl _ _ | refine Upon.drew ?_)) hu2 f1 f2 f3 hh2 k)
        go_simp
        refine hK.out _ _ hS5 (fun hHeld => ?_)
        clear hK K hh2 hs2 f1 f2 f3 hu2
        (try simp only [Act.put, List.setIfInBounds_toArray, List.set_cons_zero, List.set_cons_succ])
        refine HeldS.wpAnyS_ready (rs := [9]) (by kernel_rfl) (by simp) ?_
        refine HeldS.AllS.last (s := 9) (o := ⟨some 21, _, _, _, _, _⟩) rfl (fun K hK => ?_) HeldS.AllS.nil
        go_simp
        go_at_call 42
        refine HP.out.mono ?_
        rintro e w6 ⟨rfl, hch⟩
        have hend := Lib.hid (hf5.out w6 hch)
        go_simp
        refine hK.out _ _ ?_
        clear hK K
        (try simp only [Act.put, List.setIfInBounds_toArray, List.set_cons_zero, List.set_cons_succ])
        refine HeldS.wpAnyS_done (by kernel_rfl) ?_ _
        go_wp2_with fail
        go_roundw
        case rel => exact ⟨j + 1, _, by go_num, hlt, hnx, hsa, hend⟩
        case measure => simp [intOf]; omega
    · have hje : j = smp.length := by omega
      have hend : Hid (CmE w wr A R p b gf) := Lib.hid (by
        have h1 := hputs.out
        rw [hje, List.take_length, hgf.out] at h1
        injection h1 with h1
        rw [h1]; exact hcm.out)
      clear hputs hsn hcm hje
      go_wp2_with fail
      go_end0
      exact ⟨rfl, hend.out⟩
end
end Hd
end Go.Proofs.YtfheehlfodoimaaGreat
