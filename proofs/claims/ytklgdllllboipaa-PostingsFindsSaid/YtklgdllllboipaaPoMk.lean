/- The program's makeLists (layer 14). -/
import Derived.Test.YtklgdllllboipaaPoLst
set_option maxRecDepth 100000
namespace Go.Proofs.Ytklgdllllboipaa
open Go.RowKit Go.Sort
namespace Po
open Bit Dsk Ob Dig
set_option linter.unusedVariables false
set_option linter.unusedSimpArgs false
theorem PView.at2 {w : World} {S : Nat → Prop} {A : Option Addr} {n c : Nat} {L : List (List Lb.Pr)} (h : PView w S (.slice A n c) L) {i : Nat} (hi : i < L.length) :
    ∃ b off A' c', A = some ⟨b, off, none⟩ ∧ S b ∧ w.cell? ⟨b, off + i, none⟩ = some (.slice A' L[i].length c') ∧ Lb.View w S (.slice A' L[i].length c') L[i] := by
  obtain ⟨rs, k1, k2, k3⟩ := h
  obtain ⟨b, off, h1, hS, -, h3⟩ := Rw.View.open k1 (by omega)
  have h6 := h3 i (by omega) 0 _ rfl
  have h4 := k3 i (by omega) hi
  obtain ⟨A', c', h7, -, -⟩ := Rw.View.shape h4
  have h8 : Lb.View w S (rs[i]'(by omega)).v L[i] := h4
  rw [h7] at h8
  refine ⟨b, off, A', c', h1, hS, ?_, h8⟩
  rw [← h7]
  simpa [layS] using h6
theorem cell_upon {U : Nat → Prop} {w w' : World} (hu : Upon U w w') {a : Addr} {v : Value} (h : w.cell? a = some v) (hn : ¬ U a.block) : w'.cell? a = some v := by
  have hlt := World.block_lt_of_cell? _ _ h
  rw [← h, World.cell?, World.cell?, hu.block _ hlt hn]
/-- Half-way: the index, the map, the lists. -/
structure Mid (w0 w : World) (p b : Nat) (u : Value) (f : Lb.Pr → Option Value) (L : Lb.Pr → List Int) : Prop where
  box : IxB p u 0 1 (.map (some b)) w
  map : MapP w b f
  lst : Lst w b f L
  up : Upon (fun k => k = p) w0 w
section
variable {w0 w w' : World} {p b : Nat} {u : Value} {f : Lb.Pr → Option Value} {L L' : Lb.Pr → List Int}
theorem Mid.new (h : Mid w0 w p b u f L) (hu : New0 w w') : Mid w0 w' p b u f L :=
  ⟨h.box.new hu, h.map.kept (hu.block b h.map.lt (fun f => f)), h.lst.new hu, h.up.trans (hu.mono fun _ _ f => f.elim)⟩
theorem Mid.same (h : Mid w0 w p b u f L) (e : ∀ q, L q = L' q) : Mid w0 w p b u f L' := ⟨h.box, h.map, h.lst.same e, h.up⟩
theorem Mid.grown (h : Mid w0 w p b u f L) {q : Lb.Pr} {x : World} (hg : w.grownBy x ((f q).getD nilS).ownBlock) (hpb : p < b) (hbw : w0.heap.size ≤ b) : IxB p u 0 1 (.map (some b)) x ∧ MapP x b f ∧ Upon (fun k => k = p) w0 x :=
  ⟨h.box.grown hg (fun e => by have := h.lst.base q p e; omega), h.map.kept (hg.block b h.map.lt (fun e => by have := h.lst.base q b e.symm; omega)), Upon.grown h.up hg (fun k hk => .inr (by have := h.lst.base q k hk; omega))⟩
theorem Mid.put (h : Mid w0 w p b u f L) {q : Lb.Pr} {v' : Value} {m : List Int} {x : World} (hown : IMine x v' m) (hg : w.grownBy x ((f q).getD nilS).ownBlock) (hbl : v'.ownBlock = ((f q).getD nilS).ownBlock ∨ v'.ownBlock = some w.heap.size)
    (hpb : p < b) (hbw : w0.heap.size ≤ b) (hm : MapP w' b (putF f q v')) (hg2 : x.grownBy w' (some b)) (e1 : L' q = m) (e2 : ∀ q', q' ≠ q → L' q' = L q') : Mid w0 w' p b u (putF f q v') L' := by
  obtain ⟨h1, -, h3⟩ := h.grown hg hpb hbw
  exact ⟨h1.grown hg2 (fun e => by have := Option.some.inj e; omega), hm, h.lst.put h.map.lt hown hg hbl hg2 e1 e2, Upon.grown h3 hg2 (fun k hk => .inr (by have := Option.some.inj hk; omega))⟩
end
/-- What makeLists leaves. -/
def MkE (w : World) (p : Nat) (u : Value) (rs : List (List Lb.Pr)) (w' : World) : Prop := ∃ (b : Nat) (f : Lb.Pr → Option Value), w.heap.size ≤ b ∧ Mid w w' p b u f (fun q => sel (has rs q) rs.length)
set_option maxHeartbeats 12800000 in
theorem mk_any (w : World) (p : Nat) (u : Value) (rs : List (List Lb.Pr)) (hX : IxB p u 0 1 (.map none) w) (hV : PView w (fun b => p < b) u rs) (hn : rs.length ≤ 1000) (hl : ∀ r ∈ rs, r.length ≤ 1000) (hz : ∀ r ∈ rs, ∀ q ∈ r, Sz q) :
    Calls Try.prog 40 #[.pointer (some ⟨p, 0, none⟩)] w fun e w' => e = .returned (.tuple #[]) ∧ MkE w p u rs w' := by
  obtain ⟨A, c, rfl, -, -⟩ := Rw.DView.shape hV
  have hpw := hX.lt
  have hs4 : (w.setCell ⟨p, 4, none⟩ (.map (some w.heap.size))).heap.size = w.heap.size := by simp
  have hM0 : Mid w ((w.setCell ⟨p, 4, none⟩ (.map (some w.heap.size))).alloc (.map #[] 0)) p w.heap.size (.slice A rs.length c) (fun _ => none) (fun _ => []) :=
    ⟨(hX.set4 _).new ((Upon.refl _ _).alloc _), by have h1 := MapP.made (w.setCell ⟨p, 4, none⟩ (.map (some w.heap.size))); rw [hs4] at h1; exact h1, Lst.none _ _, (setP w p 4 _).alloc _⟩
  obtain ⟨x00, -, -, x40⟩ := hX.cells
  have f40 := hX.frozen 4
  replace hM0 := Lib.hid (hM0.same (L' := fun q => sel (has rs q) 0) (fun q => rfl))
  obtain ⟨b, hb⟩ : ∃ b, b = w.heap.size := ⟨_, rfl⟩
  rw [← hb] at hM0
  replace hV := Lib.hid hV
  replace hl := Lib.hid hl
  replace hz := Lib.hid hz
  have hpb : p < b := by omega
  have hmm := @run_makeMap Try.prog
  go_enter Try.func40, Try.ntmps40
  go_wp2_with fail
  rw [← hb]
  have hbw : w.heap.size ≤ b := by omega
  clear hmm hX x40 f40 x00 hb hs4
  generalize (w.setCell ⟨p, 4, none⟩ (.map (some b))).alloc (.map #[] 0) = w1 at *
  go_loopw [16] (fun ov wr => ∃ (j : Nat) (f : Lb.Pr → Option Value), ov = .int .i64 (j : Int) ∧ j ≤ rs.length ∧ Hid (Mid w wr p b (.slice A rs.length c) f (fun q => sel (has rs q) j))) (fun ov _ => rs.length - (intOf ov).toNat)
  case atStart => exact ⟨0, _, rfl, Nat.zero_le _, hM0⟩
  case round =>
    clear hM0
    obtain ⟨j, f, rfl, hj, hM⟩ := hrel
    by_cases hlt : j < rs.length
    · obtain ⟨bb, off, A', c', rfl, hSb, x0, hrow⟩ := PView.at2 hV.out hlt
      have x1 := cell_upon hM.out.up x0 (by show ¬ bb = p; omega)
      have hrl : rs[j].length ≤ 1000 := hl.out _ (List.getElem_mem hlt)
      have hrz := Lib.hid (hz.out _ (List.getElem_mem hlt))
      have hM1 := Lib.hid (hM.out.same (LL_start rs rs[j] j))
      have hLend := Lib.hid (LL_end hlt)
      obtain ⟨row, hrw⟩ : ∃ r, rs[j] = r := ⟨_, rfl⟩
      rw [hrw] at x1 hrow hrl hrz hM1 hLend
      replace hrow := Lib.hid hrow
      clear x0 hrw hM
      obtain ⟨wo, hwo⟩ : ∃ wo, wo = wr := ⟨_, rfl⟩
      subst hwo
      go_wp2_with fail
      go_loopw [23] (fun ov wr => ∃ (i : Nat) (f : Lb.Pr → Option Value), ov = .int .i64 (i : Int) ∧ i ≤ row.length ∧ Hid (Mid w wr p b (.slice (some ⟨bb, off, none⟩) rs.length c) f (fun q => LL rs row j i q))) (fun ov _ => row.length - (intOf ov).toNat)
      case atStart => exact ⟨0, f, rfl, Nat.zero_le _, hM1⟩
      case round =>
        clear hM1 x1
        obtain ⟨i, f, rfl, hi, hM⟩ := hrel
        by_cases hli : i < row.length
        · obtain ⟨br, offr, rfl, hSr, -, hrc⟩ := Lb.View.cells hrow.out (by omega)
          obtain ⟨y0, y1⟩ := hrc i hli
          have y2 := cell_upon hM.out.up y0 (by show ¬ br = p; omega)
          have y3 := cell_upon hM.out.up y1 (by show ¬ br = p; omega)
          have hsz := Lib.hid (hrz.out _ (List.getElem_mem hli))
          have hhad := Lib.hid (fun h => LL_had (rs := rs) (j := j) hli h)
          have hnew := Lib.hid (fun h => LL_new (rs := rs) (j := j) hli h)
          have hoth := Lib.hid (fun q h => LL_other (rs := rs) (j := j) (q := q) hli h)
          obtain ⟨⟨s1, s2⟩, hpr⟩ : ∃ x, row[i] = x := ⟨_, rfl⟩
          rw [hpr] at y2 y3 hsz hhad hnew hoth
          simp only at y2 y3
          clear y0 y1 hrc hpr
          have uA := (Upon.refl (fun _ => False) wr).alloc (.cells #[.string s1, .string s2] 28 (0, 0))
          have cA := cell_new wr (.cells #[.string s1, .string s2] 28 (0, 0))
          have hMA := Lib.hid (hM.out.new uA)
          have hclt : wr.heap.size < (wr.alloc (.cells #[.string s1, .string s2] 28 (0, 0))).heap.size := by simp
          have hown0 := Lib.hid (fun g hg => (hM.out.lst.mine (s1, s2)).lt (b := g) hg)
          clear hM
          go_wp2_with fail
          generalize wr.alloc (.cells #[.string s1, .string s2] 28 (0, 0)) = wA at *
          have hS : Hid (∀ W', Upon (fun k => k ≠ p ∧ k ≠ wr.heap.size) wA W' → IxB p (.slice (some ⟨bb, off, none⟩) rs.length c) 0 1 (.map (some b)) W' → W'.cell? ⟨p, 4, none⟩ = some (.map (some b)) ∧ W'.cell? ⟨wr.heap.size, 0, none⟩ = some (.string s1) ∧ W'.cell? ⟨wr.heap.size, 1, none⟩ = some (.string s2)) := Lib.hid fun W' hu hx =>
            have h1 := (hu.block wr.heap.size hclt (fun e => e.2 rfl)).trans cA
            ⟨hx.cells.2.2.2, by rw [World.cell?, h1]; rfl, by rw [World.cell?, h1]; rfl⟩
          have hS0 := Lib.hid (fun W' (hu : New0 wA W') => hS.out W' (hu.mono fun _ _ f => f.elim) (hMA.out.box.new hu))
          have hlk := Lib.hid (hMA.out.map.look hsz.out)
          have hlq := Lib.hid (hMA.out.lst.mine (s1, s2))
          obtain ⟨lv, hlv⟩ : ∃ v, (f (s1, s2)).getD nilS = v := ⟨_, rfl⟩
          rw [hlv] at hlk hlq hown0
          obtain ⟨l, hll⟩ : ∃ l, LL rs row j i (s1, s2) = l := ⟨_, rfl⟩
          have hlen := LL_len rs row j i (s1, s2)
          have hhad2 := Lib.hid (fun h => LL_last_had (rs := rs) (row := row) (j := j) (i := i) (q := (s1, s2)) h)
          have hnot2 := Lib.hid (fun h => LL_last_not (rs := rs) (row := row) (j := j) (i := i) (q := (s1, s2)) h)
          rw [hll] at hlq hnew hlen hhad2 hnot2
          obtain ⟨Al, cl, hlv2, -, -⟩ := Rw.View.shape hlq.out.view
          subst hlv2
          replace hlv := Lib.hid hlv
          replace hll := Lib.hid hll
          clear uA cA y2 y3
          refine HeldS.wp_region_S 6 (S := fun w' => w'.cell? ⟨p, 4, none⟩ = some (.map (some b)) ∧ w'.cell? ⟨wr.heap.size, 0, none⟩ = some (.string s1) ∧ w'.cell? ⟨wr.heap.size, 1, none⟩ = some (.string s2)) (by kernel_rfl) (hS0.out _ ((Upon.refl _ wA).drew)) (fun hHeld => ?_)
          refine HeldS.wpAnyS_take (i := 0) [5, 3, 2, 1] (oi := _) (v := ?_) rfl (by kernel_rfl) (by kernel_rfl) (by kernel_rfl) (by kernel_rfl) (by kernel_rfl) (fun _ _ _ h => h) (Or.inl ⟨by rfl, ?_⟩) (by assumption) ?_
          rotate_left
          · (intro w hSw; (try dsimp only at hSw); go_simp; (try with_reducible rfl))
          (try simp only [Act.put, List.setIfInBounds_toArray, List.set_cons_zero, List.set_cons_succ])
          refine HeldS.wpAnyS_take (i := 1) [5, 3, 2] (oi := _) (v := ?_) rfl (by kernel_rfl) (by kernel_rfl) (by kernel_rfl) (by kernel_rfl) (by kernel_rfl) (fun _ _ _ h => h) (Or.inl ⟨by rfl, ?_⟩) (by assumption) ?_
          rotate_left
          · (intro w hSw; (try dsimp only at hSw); go_simp; (try with_reducible rfl))
          (try simp only [Act.put, List.setIfInBounds_toArray, List.set_cons_zero, List.set_cons_succ])
          refine HeldS.wpAnyS_take (i := 2) [5, 3] (oi := _) (v := ?_) rfl (by kernel_rfl) (by kernel_rfl) (by kernel_rfl) (by kernel_rfl) (by kernel_rfl) (fun _ _ _ h => h) (Or.inl ⟨by rfl, ?_⟩) (by assumption) ?_
          rotate_left
          · (intro w hSw; (try dsimp only at hSw); go_simp; (try with_reducible rfl))
          (try simp only [Act.put, List.setIfInBounds_toArray, List.set_cons_zero, List.set_cons_succ])
          refine HeldS.wpAnyS_take (i := 3) [5] (oi := _) (v := ?_) rfl (by kernel_rfl) (by kernel_rfl) (by kernel_rfl) (by kernel_rfl) (by kernel_rfl) (fun _ _ _ h => h) (Or.inl ⟨by rfl, ?_⟩) (by assumption) ?_
          rotate_left
          · (intro w hSw; (try dsimp only at hSw); go_simp; (try with_reducible rfl))
          (try simp only [Act.put, List.setIfInBounds_toArray, List.set_cons_zero, List.set_cons_succ])
          refine HeldS.wpAnyS_take (i := 4) [5] (oi := _) (v := ?_) rfl (by kernel_rfl) (by kernel_rfl) (by kernel_rfl) (by kernel_rfl) (by kernel_rfl) (fun _ _ _ h => h) (Or.inl ⟨by rfl, ?_⟩) (by assumption) ?_
          rotate_left
          · (intro w hSw; (try dsimp only at hSw); go_simp; (try with_reducible rfl))
          (try simp only [Act.put, List.setIfInBounds_toArray, List.set_cons_zero, List.set_cons_succ])
          refine HeldS.wpAnyS_ready (rs := [5]) (by kernel_rfl) (by simp) ?_
          refine HeldS.AllS.cons (o := ⟨some 32, _, _, _, _, _⟩) rfl (fun K hK => ?_) HeldS.AllS.nil
          refine step_look (o := ⟨some 32, _, _, _, _, _⟩) (by rfl) _ _ _ (by rfl) (.map (some b)) (prV (s1, s2)) (.slice Al l.length cl) (by rfl) (by rfl) (show (Instr.lookup _ _ _ _).run Try.prog wA.drew = .ok _ wA.drew from (hMA.out.new ((Upon.refl _ wA).drew)).map.look hsz.out |>.trans (by rw [hlv.out])) ?_
          refine hK.out _ _ (hS0.out _ ((Upon.refl _ wA).drew)) (fun hHeld => ?_)
          clear hK K
          (try simp only [Act.put, List.setIfInBounds_toArray, List.set_cons_zero, List.set_cons_succ])
          refine HeldS.wpAnyS_ready (rs := [6]) (by kernel_rfl) (by simp) ?_
          refine HeldS.AllS.last (s := 6) (o := ⟨some 6, _, _, _, _, _⟩) rfl (fun K hK => ?_) HeldS.AllS.nil
          go_simp
          refine hK.out _ _ ?_
          clear hK K hHeld
          (try simp only [Act.put, List.setIfInBounds_toArray, List.set_cons_zero, List.set_cons_succ])
          refine HeldS.wpAnyS_done (by kernel_rfl) ?_ _
          have hMB := Lib.hid (hMA.out.new ((Upon.refl _ wA).drew))
          have hSB : Hid (∀ W', Upon (fun k => k ≠ p ∧ k ≠ wr.heap.size) wA.drew W' → IxB p (.slice (some ⟨bb, off, none⟩) rs.length c) 0 1 (.map (some b)) W' → W'.cell? ⟨p, 4, none⟩ = some (.map (some b)) ∧ W'.cell? ⟨wr.heap.size, 0, none⟩ = some (.string s1) ∧ W'.cell? ⟨wr.heap.size, 1, none⟩ = some (.string s2)) := Lib.hid fun W' hu hx => hS.out W' (((Upon.refl _ wA).drew).trans hu) hx
          have hlqB := Lib.hid (hlq.out.new ((Upon.refl _ wA).drew))
          have hzB : wr.heap.size < wA.drew.heap.size := hclt
          clear hS hS0 hlk hlq hMA hclt
          generalize wA.drew = wB at *
          have hS1 := Lib.hid (fun W' (hu : New0 wB W') => hSB.out W' (hu.mono fun _ _ f => f.elim) (hMB.out.box.new hu))
          by_cases hin : (s1, s2) ∈ row.take i
          · obtain ⟨hpos, hlast⟩ := hhad2.out hin
            obtain ⟨ga, offa, rfl, -, -, hcl⟩ := IView.cells hlqB.out.view hpos
            have z0 := hcl (l.length - 1) (by omega)
            rw [hlast (l.length - 1) (by omega) (by omega)] at z0
            have hG := Lib.hid (hMB.out.same (hhad.out hin))
            have d0 : ((l.length : Int) == 0) = false := by rw [beq_eq_false_iff_ne]; omega
            have hw : wrap64 ((l.length : Int) - 1) = ((l.length - 1 : Nat) : Int) := by unfold wrap64; omega
            clear hMB hSB hS1 hlqB hlv hll hhad hnew hoth hhad2 hnot2 hlast hcl hHeld
            go_wp2_with fail
            go_roundw
            case rel => exact ⟨i + 1, f, by go_num, hli, hG⟩
            case measure => simp [intOf]; omega
          · by_cases hpos : 0 < l.length
            · have hlast := hnot2.out hin (l.length - 1) (by omega)
              obtain ⟨ga, offa, rfl, -, -, hcl⟩ := IView.cells hlqB.out.view hpos
              have z0 := hcl (l.length - 1) (by omega)
              obtain ⟨y, hy⟩ : ∃ y, l[l.length - 1] = y := ⟨_, rfl⟩
              rw [hy] at z0 hlast
              have d0 : ((l.length : Int) == 0) = false := by rw [beq_eq_false_iff_ne]; omega
              have hw : wrap64 ((l.length : Int) - 1) = ((l.length - 1 : Nat) : Int) := by unfold wrap64; omega
              clear hcl hy hHeld
              go_wp2_with fail
              refine HeldS.wp_region_S 9 (S := fun w' => w'.cell? ⟨p, 4, none⟩ = some (.map (some b)) ∧ w'.cell? ⟨wr.heap.size, 0, none⟩ = some (.string s1) ∧ w'.cell? ⟨wr.heap.size, 1, none⟩ = some (.string s2)) (by kernel_rfl) (hS1.out _ ((Upon.refl _ wB).drew)) (fun hHeld => ?_)
              refine HeldS.wpAnyS_take (i := 0) [3, 2, 1] (oi := _) (v := ?_) rfl (by kernel_rfl) (by kernel_rfl) (by kernel_rfl) (by kernel_rfl) (by kernel_rfl) (fun _ _ _ h => h) (Or.inl ⟨by rfl, ?_⟩) (by assumption) ?_
              rotate_left
              · (intro w hSw; (try dsimp only at hSw); go_simp; (try with_reducible rfl))
              (try simp only [Act.put, List.setIfInBounds_toArray, List.set_cons_zero, List.set_cons_succ])
              refine HeldS.wpAnyS_take (i := 1) [3, 2] (oi := _) (v := ?_) rfl (by kernel_rfl) (by kernel_rfl) (by kernel_rfl) (by kernel_rfl) (by kernel_rfl) (fun _ _ _ h => h) (Or.inl ⟨by rfl, ?_⟩) (by assumption) ?_
              rotate_left
              · (intro w hSw; (try dsimp only at hSw); go_simp; (try with_reducible rfl))
              (try simp only [Act.put, List.setIfInBounds_toArray, List.set_cons_zero, List.set_cons_succ])
              refine HeldS.wpAnyS_take (i := 2) [3] (oi := _) (v := ?_) rfl (by kernel_rfl) (by kernel_rfl) (by kernel_rfl) (by kernel_rfl) (by kernel_rfl) (fun _ _ _ h => h) (Or.inl ⟨by rfl, ?_⟩) (by assumption) ?_
              rotate_left
              · (intro w hSw; (try dsimp only at hSw); go_simp; (try with_reducible rfl))
              (try simp only [Act.put, List.setIfInBounds_toArray, List.set_cons_zero, List.set_cons_succ])
              refine HeldS.wpAnyS_take (i := 3) [] (oi := _) (v := ?_) rfl (by kernel_rfl) (by kernel_rfl) (by kernel_rfl) (by kernel_rfl) (by kernel_rfl) (fun _ _ _ h => h) (Or.inl ⟨by rfl, ?_⟩) (by assumption) ?_
              rotate_left
              · (intro w hSw; (try dsimp only at hSw); go_simp; (try with_reducible rfl))
              (try simp only [Act.put, List.setIfInBounds_toArray, List.set_cons_zero, List.set_cons_succ])
              refine HeldS.wpAnyS_take (i := 4) [] (oi := _) (v := ?_) rfl (by kernel_rfl) (by kernel_rfl) (by kernel_rfl) (by kernel_rfl) (by kernel_rfl) (fun _ _ _ h => h) (Or.inl ⟨by rfl, ?_⟩) (by assumption) ?_
              rotate_left
              · (intro w hSw; (try dsimp only at hSw); go_simp; (try with_reducible rfl))
              (try simp only [Act.put, List.setIfInBounds_toArray, List.set_cons_zero, List.set_cons_succ])
              refine HeldS.wpAnyS_take (i := 5) [8] (oi := _) (v := ?_) rfl (by kernel_rfl) (by kernel_rfl) (by kernel_rfl) (by kernel_rfl) (by kernel_rfl) (fun _ _ _ h => h) (Or.inl ⟨by rfl, ?_⟩) (by assumption) ?_
              rotate_left
              · (intro w hSw; (try dsimp only at hSw); go_simp; (try with_reducible rfl))
              (try simp only [Act.put, List.setIfInBounds_toArray, List.set_cons_zero, List.set_cons_succ])
              refine HeldS.wpAnyS_take (i := 6) [8, 7] (oi := _) (v := ?_) rfl (by kernel_rfl) (by kernel_rfl) (by kernel_rfl) (by kernel_rfl) (by kernel_rfl) (fun _ _ _ h => h) (Or.inl ⟨by rfl, ?_⟩) (by assumption) ?_
              rotate_left
              · (intro w hSw; (try dsimp only at hSw); go_simp; (try with_reducible rfl))
              (try simp only [Act.put, List.setIfInBounds_toArray, List.set_cons_zero, List.set_cons_succ])
              refine HeldS.wpAnyS_ready (rs := [7]) (by kernel_rfl) (by simp) ?_
              refine HeldS.AllS.cons (o := ⟨some 53, _, _, _, _, _⟩) rfl (fun K hK => ?_) HeldS.AllS.nil
              go_simp
              refine hK.out _ _ (hS1.out _ (((Upon.refl _ wB).drew).alloc _)) (fun hHeld => ?_)
              clear hK K
              (try simp only [Act.put, List.setIfInBounds_toArray, List.set_cons_zero, List.set_cons_succ])
              have hM5 := hMB.out.new (((Upon.refl _ wB).drew).alloc (.cells #[.int .i64 (j : Int)] 3 (0, 0)))
              have hv5 := view_one wB.drew (j : Int)
              refine HeldS.wpAnyS_ready (rs := [8]) (by kernel_rfl) (by simp) ?_
              refine HeldS.AllS.cons (o := ⟨some 54, _, _, _, _, _⟩) rfl (fun K hK => ?_) HeldS.AllS.nil
              refine Rw.step_append typI (o := ⟨some 54, _, _, _, _, _⟩) (by rfl) _ _ (by rfl) (.slice (some ⟨ga, offa, none⟩) l.length cl) _ l [(j : Int)] All (by rfl) (by rfl) (hlqB.out.new (((Upon.refl _ wB).drew).alloc _)) hv5 (by rw [List.length_singleton]; omega) (by rw [List.length_singleton]; omega) ?_
              intro v' x hown hg hbl
              rw [← hlv.out] at hg hbl
              obtain ⟨q1, q2, q3⟩ := hM5.grown hg hpb hbw
              have q4 : Upon (fun k => k ≠ p ∧ k ≠ wr.heap.size) wB x := Upon.grown ((((Upon.refl _ wB).drew).alloc _).mono (fun _ _ f => f)) hg (fun k hk => .inl ⟨fun e => by have := hM5.lst.base (s1, s2) k hk; omega, fun e => by rw [hlv.out] at hk; have := hown0.out k hk; omega⟩)
              have q5 := hSB.out x q4 q1
              obtain ⟨w9, hrun, q6, q7⟩ := q2.put hsz.out v'
              have hMf := Lib.hid (hM5.put (L' := fun q => LL rs row j (i + 1) q) hown hg hbl hpb hbw q6 q7 (hnew.out hin) hoth.out)
              obtain ⟨A8, c8, hv8', -, -⟩ := Rw.View.shape hown.view
              subst hv8'
              refine hK.out _ _ q5 (fun hHeld => ?_)
              clear hK K
              (try simp only [Act.put, List.setIfInBounds_toArray, List.set_cons_zero, List.set_cons_succ])
              refine HeldS.wpAnyS_ready (rs := [9]) (by kernel_rfl) (by simp) ?_
              refine HeldS.AllS.last (s := 9) (o := ⟨none, _, _, _, _, _⟩) rfl (fun K hK => ?_) HeldS.AllS.nil
              refine step_put (o := ⟨none, _, _, _, _, _⟩) (by rfl) _ _ _ _ (by rfl) (.map (some b)) (prV (s1, s2)) (.slice A8 (l ++ [(j : Int)]).length c8) w9 (by rfl) (by rfl) (by rfl) hrun ?_
              refine hK.out _ _ ?_
              clear hK K hHeld hrun q1 q2 q3 q4 q5 q6 q7 hown hg hbl hM5 hv5 hMB hSB hS1 hlqB hlv hll hhad hnew hoth hhad2 hnot2
              (try simp only [Act.put, List.setIfInBounds_toArray, List.set_cons_zero, List.set_cons_succ])
              refine HeldS.wpAnyS_done (by kernel_rfl) ?_ _
              go_wp2_with fail
              go_roundw
              case rel => exact ⟨i + 1, _, by go_num, hli, hMf⟩
              case measure => simp [intOf]; omega
            · obtain rfl : l = [] := List.length_eq_zero_iff.1 (by omega)
              replace hlv : Hid ((f (s1, s2)).getD nilS = .slice Al 0 cl) := hlv
              clear hHeld hpos
              go_wp2_with fail
              refine HeldS.wp_region_S 9 (S := fun w' => w'.cell? ⟨p, 4, none⟩ = some (.map (some b)) ∧ w'.cell? ⟨wr.heap.size, 0, none⟩ = some (.string s1) ∧ w'.cell? ⟨wr.heap.size, 1, none⟩ = some (.string s2)) (by kernel_rfl) (hS1.out _ ((Upon.refl _ wB).drew)) (fun hHeld => ?_)
              refine HeldS.wpAnyS_take (i := 0) [3, 2, 1] (oi := _) (v := ?_) rfl (by kernel_rfl) (by kernel_rfl) (by kernel_rfl) (by kernel_rfl) (by kernel_rfl) (fun _ _ _ h => h) (Or.inl ⟨by rfl, ?_⟩) (by assumption) ?_
              rotate_left
              · (intro w hSw; (try dsimp only at hSw); go_simp; (try with_reducible rfl))
              (try simp only [Act.put, List.setIfInBounds_toArray, List.set_cons_zero, List.set_cons_succ])
              refine HeldS.wpAnyS_take (i := 1) [3, 2] (oi := _) (v := ?_) rfl (by kernel_rfl) (by kernel_rfl) (by kernel_rfl) (by kernel_rfl) (by kernel_rfl) (fun _ _ _ h => h) (Or.inl ⟨by rfl, ?_⟩) (by assumption) ?_
              rotate_left
              · (intro w hSw; (try dsimp only at hSw); go_simp; (try with_reducible rfl))
              (try simp only [Act.put, List.setIfInBounds_toArray, List.set_cons_zero, List.set_cons_succ])
              refine HeldS.wpAnyS_take (i := 2) [3] (oi := _) (v := ?_) rfl (by kernel_rfl) (by kernel_rfl) (by kernel_rfl) (by kernel_rfl) (by kernel_rfl) (fun _ _ _ h => h) (Or.inl ⟨by rfl, ?_⟩) (by assumption) ?_
              rotate_left
              · (intro w hSw; (try dsimp only at hSw); go_simp; (try with_reducible rfl))
              (try simp only [Act.put, List.setIfInBounds_toArray, List.set_cons_zero, List.set_cons_succ])
              refine HeldS.wpAnyS_take (i := 3) [] (oi := _) (v := ?_) rfl (by kernel_rfl) (by kernel_rfl) (by kernel_rfl) (by kernel_rfl) (by kernel_rfl) (fun _ _ _ h => h) (Or.inl ⟨by rfl, ?_⟩) (by assumption) ?_
              rotate_left
              · (intro w hSw; (try dsimp only at hSw); go_simp; (try with_reducible rfl))
              (try simp only [Act.put, List.setIfInBounds_toArray, List.set_cons_zero, List.set_cons_succ])
              refine HeldS.wpAnyS_take (i := 4) [] (oi := _) (v := ?_) rfl (by kernel_rfl) (by kernel_rfl) (by kernel_rfl) (by kernel_rfl) (by kernel_rfl) (fun _ _ _ h => h) (Or.inl ⟨by rfl, ?_⟩) (by assumption) ?_
              rotate_left
              · (intro w hSw; (try dsimp only at hSw); go_simp; (try with_reducible rfl))
              (try simp only [Act.put, List.setIfInBounds_toArray, List.set_cons_zero, List.set_cons_succ])
              refine HeldS.wpAnyS_take (i := 5) [8] (oi := _) (v := ?_) rfl (by kernel_rfl) (by kernel_rfl) (by kernel_rfl) (by kernel_rfl) (by kernel_rfl) (fun _ _ _ h => h) (Or.inl ⟨by rfl, ?_⟩) (by assumption) ?_
              rotate_left
              · (intro w hSw; (try dsimp only at hSw); go_simp; (try with_reducible rfl))
              (try simp only [Act.put, List.setIfInBounds_toArray, List.set_cons_zero, List.set_cons_succ])
              refine HeldS.wpAnyS_take (i := 6) [8, 7] (oi := _) (v := ?_) rfl (by kernel_rfl) (by kernel_rfl) (by kernel_rfl) (by kernel_rfl) (by kernel_rfl) (fun _ _ _ h => h) (Or.inl ⟨by rfl, ?_⟩) (by assumption) ?_
              rotate_left
              · (intro w hSw; (try dsimp only at hSw); go_simp; (try with_reducible rfl))
              (try simp only [Act.put, List.setIfInBounds_toArray, List.set_cons_zero, List.set_cons_succ])
              refine HeldS.wpAnyS_ready (rs := [7]) (by kernel_rfl) (by simp) ?_
              refine HeldS.AllS.cons (o := ⟨some 53, _, _, _, _, _⟩) rfl (fun K hK => ?_) HeldS.AllS.nil
              go_simp
              refine hK.out _ _ (hS1.out _ (((Upon.refl _ wB).drew).alloc _)) (fun hHeld => ?_)
              clear hK K
              (try simp only [Act.put, List.setIfInBounds_toArray, List.set_cons_zero, List.set_cons_succ])
              have hM5 := hMB.out.new (((Upon.refl _ wB).drew).alloc (.cells #[.int .i64 (j : Int)] 3 (0, 0)))
              have hv5 := view_one wB.drew (j : Int)
              refine HeldS.wpAnyS_ready (rs := [8]) (by kernel_rfl) (by simp) ?_
              refine HeldS.AllS.cons (o := ⟨some 54, _, _, _, _, _⟩) rfl (fun K hK => ?_) HeldS.AllS.nil
              refine Rw.step_append typI (o := ⟨some 54, _, _, _, _, _⟩) (by rfl) _ _ (by rfl) (.slice Al 0 cl) _ [] [(j : Int)] All (by rfl) (by rfl) (hlqB.out.new (((Upon.refl _ wB).drew).alloc _)) hv5 (by rw [List.length_singleton]; omega) (by rw [List.length_singleton]; omega) ?_
              intro v' x hown hg hbl
              rw [← hlv.out] at hg hbl
              obtain ⟨q1, q2, q3⟩ := hM5.grown hg hpb hbw
              have q4 : Upon (fun k => k ≠ p ∧ k ≠ wr.heap.size) wB x := Upon.grown ((((Upon.refl _ wB).drew).alloc _).mono (fun _ _ f => f)) hg (fun k hk => .inl ⟨fun e => by have := hM5.lst.base (s1, s2) k hk; omega, fun e => by rw [hlv.out] at hk; have := hown0.out k hk; omega⟩)
              have q5 := hSB.out x q4 q1
              obtain ⟨w9, hrun, q6, q7⟩ := q2.put hsz.out v'
              have hMf := Lib.hid (hM5.put (L' := fun q => LL rs row j (i + 1) q) hown hg hbl hpb hbw q6 q7 (hnew.out hin) hoth.out)
              obtain ⟨A8, c8, hv8', -, -⟩ := Rw.View.shape hown.view
              subst hv8'
              refine hK.out _ _ q5 (fun hHeld => ?_)
              clear hK K
              (try simp only [Act.put, List.setIfInBounds_toArray, List.set_cons_zero, List.set_cons_succ])
              refine HeldS.wpAnyS_ready (rs := [9]) (by kernel_rfl) (by simp) ?_
              refine HeldS.AllS.last (s := 9) (o := ⟨none, _, _, _, _, _⟩) rfl (fun K hK => ?_) HeldS.AllS.nil
              refine step_put (o := ⟨none, _, _, _, _, _⟩) (by rfl) _ _ _ _ (by rfl) (.map (some b)) (prV (s1, s2)) (.slice A8 ([] ++ [(j : Int)]).length c8) w9 (by rfl) (by rfl) (by rfl) hrun ?_
              refine hK.out _ _ ?_
              clear hK K hHeld hrun q1 q2 q3 q4 q5 q6 q7 hown hg hbl hM5 hv5 hMB hSB hS1 hlqB hlv hll hhad hnew hoth hhad2 hnot2
              (try simp only [Act.put, List.setIfInBounds_toArray, List.set_cons_zero, List.set_cons_succ])
              refine HeldS.wpAnyS_done (by kernel_rfl) ?_ _
              go_wp2_with fail
              go_roundw
              case rel => exact ⟨i + 1, _, by go_num, hli, hMf⟩
              case measure => simp [intOf]; omega
        · have hG : Hid (Mid w wr p b (.slice (some ⟨bb, off, none⟩) rs.length c) f (fun q => sel (has rs q) (j + 1))) := Lib.hid (by
            have h1 := hM.out
            rw [show i = row.length by omega] at h1
            exact h1.same hLend.out)
          clear hM hrow
          go_wp2_with fail
          go_roundw
          case rel => exact ⟨j + 1, f, by go_num, hlt, hG⟩
          case measure => simp [intOf]; omega
    · have hE : Hid (MkE w p (.slice A rs.length c) rs wr) := Lib.hid ⟨b, f, hbw, by have h1 := hM.out; rw [show j = rs.length by omega] at h1; exact h1⟩
      clear hM hV hl hz
      go_wp2_with fail
      go_end0
      exact ⟨rfl, hE.out⟩
end Po
end Go.Proofs.Ytklgdllllboipaa
