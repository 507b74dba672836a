/- The program's manifests (layer 17): Decode. Written by wip/tools/mfpdec.py. -/
import Derived.Test.YtjpgglajcelllaaDoorEMfMan
import Derived.Test.YtjpgglajcelllaaDoorEMfChk
import Derived.Test.YtjpgglajcelllaaDoorEMfDecR
set_option maxRecDepth 100000
namespace Go.Proofs.YtjpgglajcelllaaDoor
open Go.RowKit
namespace Mf
open Bit Dsk Ob Dig
set_option linter.unusedVariables false
/-! ### plainly: the program's way -/
theorem decp_frame {s : ByteArray} (h : (Frm.gotF s).err ≠ 0 ∨ (Frm.gotF s).size ≠ s.size ∨ (Frm.gotF s).kind ≠ 6) : Dec s zero 3 := .inr ⟨rfl, rfl, fun m hm _ e => by
  rw [← e, got_self hm] at h
  rcases h with h | h | h
  · exact h rfl
  · exact h rfl
  · exact h rfl⟩
theorem boxed_new {g : Nat} {a b : Value} {w w' : World} (h : Boxed g a b w) (hu : New0 w w') : Boxed g a b w' := Lb.boxed_below h (belowOf hu)
theorem whole {s : ByteArray} (h : (Frm.gotF s).err = 0) (hs : (Frm.gotF s).size = s.size) : s = Frm.putA (Frm.gotF s).kind (Frm.gotF s).data := by
  unfold Frm.gotF at h hs ⊢
  cases hl : s.data.toList with
  | nil => simp [hl, Frm.bad] at h
  | cons c r =>
    have hsz := Dig.size_cons s hl
    have htl : (s.extract 1 s.size).data.toList = r := by rw [Frm.tail_list, hl]; rfl
    simp only [hl] at h hs ⊢
    split at h
    · simp [Frm.bad] at h
    · rename_i h0
      rw [if_neg h0] at hs ⊢
      split at h
      · rename_i h1; exact absurd h h1
      · rename_i h1
        have h1' : (gotT r 65536).2.2 = 0 := by
          by_cases hh : (gotT r 65536).2.2 = 0
          · exact hh
          · exact absurd hh h1
        rw [if_neg h1] at hs ⊢
        split at h
        · simp [Frm.bad] at h
        · rename_i h2
          rw [if_neg h2] at hs ⊢
          split at h
          · rename_i h3
            rw [if_pos h3] at hs ⊢
            simp only at hs ⊢
            obtain ⟨n, k, x, hg⟩ : ∃ n k x, gotT r 65536 = (n, k, x) := ⟨_, _, _, rfl⟩
            rw [hg] at h1'
            obtain rfl : x = 0 := h1'
            rw [hg] at hs h3 ⊢
            simp only at hs h3 ⊢
            have ht := Lb.txt_is (m := 65536) (r := s.extract 1 s.size) (n := n) (k := k) (x := 0) (by rw [htl]; exact hg)
            have hok := Lb.txt_ok ht
            rw [htl] at hok
            have hc : UInt8.ofNat c.toNat = c := UInt8.ofNat_toNat
            have hlen := congrArg List.length hok
            have hrl : r.length = s.size - 1 := by omega
            have hdl : (((s.extract 1 s.size).extract (k + n) (s.extract 1 s.size).size)).data.toList.length = 4 := by
              rw [Frm.extract_list, List.take_of_length_le (by rw [Frm.size_list]; exact Nat.le_refl _), htl, List.length_drop]; omega
            have hH : s.extract 0 (1 + (k + n)) = Frm.hdr c.toNat ((s.extract 1 s.size).extract k (k + n)) := by
              apply Frm.bytes_ext
              rw [Frm.hdr_list, Frm.extract_list, hl, hc, List.drop_zero]
              rw [show 1 + (k + n) = (k + n) + 1 by omega, List.take_succ_cons]
              congr 1
              have h5 : (numL ((s.extract 1 s.size).extract k (k + n)).size ++ ((s.extract 1 s.size).extract k (k + n)).data.toList).length = k + n := by
                rw [hrl] at hlen
                rw [List.length_append] at hlen
                omega
              conv => lhs; rw [hok]
              rw [List.take_append_of_le_length (Nat.le_of_eq h5.symm), List.take_of_length_le (Nat.le_of_eq h5)]
            unfold Frm.putA
            rw [← hH, ← h3]
            apply Frm.bytes_ext
            rw [ByteArray.data_append, Array.toList_append, Frm.extract_list, Frm.extract_list, List.drop_zero, List.take_of_length_le (i := 5 + (k + n)) (l := s.data.toList) (by rw [Frm.size_list]; omega), List.take_append_drop]
          · simp [Frm.bad] at h
theorem decp_no {s : ByteArray} {x : Nat} (h : allP (Frm.gotF s).data.data.toList = .error x) : Dec s zero 3 := .inr ⟨rfl, rfl, fun m hm hk e => by
  rw [← e, got_self hm] at h
  have h2 := all_encP hm hk []
  rw [List.append_nil] at h2
  rw [show (⟨6, bts (dataL m), (code m).size, 0⟩ : Frm.Got).data.data.toList = dataL m from rfl, h2] at h
  cases h⟩
theorem decp_got {s : ByteArray} {m : M} {x : List UInt8} (he : (Frm.gotF s).err = 0) (hs : (Frm.gotF s).size = s.size) (hk : (Frm.gotF s).kind = 6) (h : allP (Frm.gotF s).data.data.toList = .ok (m, x)) :
    (x = [] → chk m = 0 → Dec s m 0) ∧ (x ≠ [] ∨ chk m ≠ 0 → Dec s zero 3) := by
  obtain ⟨h1, h2⟩ := all_inv h
  constructor
  · intro hx hc
    refine .inl ⟨rfl, chk_zero.1 hc, h2, ?_⟩
    rw [whole he hs, hk]
    unfold code
    rw [hx, List.append_nil] at h1
    rw [← h1]
    rfl
  · intro h3
    refine .inr ⟨rfl, rfl, fun n hn hk2 e => ?_⟩
    have h4 := all_encP hn hk2 []
    rw [List.append_nil] at h4
    rw [← e, got_self hn, show (⟨6, bts (dataL n), (code n).size, 0⟩ : Frm.Got).data.data.toList = dataL n from rfl, h4] at h
    obtain ⟨e1, e2⟩ := Prod.mk.inj (Except.ok.inj h)
    subst e1 e2
    rcases h3 with h3 | h3
    · exact h3 rfl
    · exact h3 (chk_zero.2 hn)
set_option maxHeartbeats 25600000 in
theorem pdec_any (w : World) (s0 : ByteArray) (hs0 : s0.size ≤ 5000) (hT : Crc.Tab w) :
    Calls Tryd.prog 12 #[.string s0] w (DecE w s0) := by
  have hGet := Lib.hid (fun w hT => Frm.get_any s0 (by omega) w hT)
  have hfr := Lib.hid (decp_frame (s := s0))
  have hno : Hid (∀ x, allP (Frm.gotF s0).data.data.toList = .error x → Dec s0 zero 3) := Lib.hid (fun x h => decp_no h)
  have hyes : Hid (∀ m x, (Frm.gotF s0).err = 0 → (Frm.gotF s0).size = s0.size → (Frm.gotF s0).kind = 6 → allP (Frm.gotF s0).data.data.toList = .ok (m, x) → (x = [] → chk m = 0 → Dec s0 m 0) ∧ (x ≠ [] ∨ chk m ≠ 0 → Dec s0 zero 3)) := Lib.hid (fun m x h1 h2 h3 h4 => decp_got h1 h2 h3 h4)
  have hdz : (Frm.gotF s0).data.size ≤ 65536 := by
    by_cases h : (Frm.gotF s0).err = 0
    · exact (Frm.gotF_ok s0 h).2.2.2
    · rw [Frm.gotF_err s0 h]; show (⟨#[]⟩ : ByteArray).size ≤ _; decide
  obtain ⟨G, hG⟩ : ∃ G, Frm.gotF s0 = G := ⟨_, rfl⟩
  rw [hG] at hGet hfr hno hyes hdz
  clear hG
  obtain ⟨gk, d, gs, ge⟩ := G
  simp only at hGet hfr hno hyes hdz
  obtain ⟨w0, hw0⟩ : ∃ w0, w.alloc (.cells #[.int .i64 0, .int .i64 0, .int .i64 0, .int .i64 0, .int .i64 0, .slice none 0 0] 26 (0, 0)) = w0 := ⟨_, rfl⟩
  have hres0 : Six 26 w.heap.size svZ w0 := by rw [← hw0]; exact six_new _ w svZ
  have u0 : New0 w w0 := by rw [← hw0]; exact (Upon.refl _ w).alloc _
  have hz0 : w0.heap.size = w.heap.size + 1 := by rw [← hw0]; simp
  have hT0 := Lib.hid (hT.below (belowOf u0))
  replace hw0 := Lib.hid hw0
  replace hres0 := Lib.hid hres0
  replace u0 := Lib.hid u0
  clear hT
  go_enter Tryd.func12, Tryd.ntmps12
  go_wp2_with fail
  rw [hw0.out]
  refine (hGet.out w0 hT0.out).mono ?_
  rintro e w1 ⟨rfl, hb1⟩
  have hn1 := newOf hb1
  have hs1 := hn1.size
  have u1 := Lib.hid (u0.out.trans hn1)
  have hres1 := Lib.hid (hres0.out.new hn1)
  clear hGet hb1 hn1 hw0 u0 hres0 hT0
  have a6 : New0 w1 (w1.alloc (.cells #[.int .i64 (gk : Int), .string d] 61 (0, 0))) := (Upon.refl _ w1).alloc _
  have a7 := cell_new w1 (.cells #[.int .i64 (gk : Int), .string d] 61 (0, 0))
  have a4 : (w1.alloc (.cells #[.int .i64 (gk : Int), .string d] 61 (0, 0))).cell? ⟨w1.heap.size, 0, none⟩ = some (.int .i64 (gk : Int)) := by rw [Lib.cell_of_heap a7]; rfl
  have a5 : (w1.alloc (.cells #[.int .i64 (gk : Int), .string d] 61 (0, 0))).cell? ⟨w1.heap.size, 1, none⟩ = some (.string d) := by rw [Lib.cell_of_heap a7]; rfl
  have uq := Lib.hid (u1.out.trans a6)
  have hresq := Lib.hid (hres1.out.new a6)
  clear a6 a7 u1 hres1
  go_upto_region 2 with fail
  go_cut [27] from 15 to 27 (fun cv wx => ∃ c : Bool, cv = .bool c ∧ wx = w1.alloc (.cells #[.int .i64 (gk : Int), .string d] 61 (0, 0)) ∧ Hid (c = true → Dec s0 zero 3) ∧ (c = false → ge = 0 ∧ gs = s0.size ∧ gk = 6))
  case first =>
    clear hno hyes hresq uq
    by_cases h1 : ge = 0
    · have d1 : ((ge : Int) != 0) = false := by rw [h1]; rfl
      by_cases h2 : gs = s0.size
      · have d2 : ((gs : Int) != (s0.size : Int)) = false := by rw [h2, bne_self_eq_false]
        by_cases h3 : gk = 6
        · have d3 : ((gk : Int) != 6) = false := by rw [h3]; rfl
          have hh := Lib.hid (And.intro h1 (And.intro h2 h3))
          clear h1 h2 h3 hfr
          go_wp2_with fail
          go_meet
          exact ⟨false, rfl, rfl, Lib.hid (fun h => by cases h), fun _ => hh.out⟩
        · have d3 : ((gk : Int) != 6) = true := by rw [bne_iff_ne]; omega
          have hh := Lib.hid (hfr.out (.inr (.inr h3)))
          clear h1 h2 h3 hfr
          go_wp2_with fail
          go_meet
          exact ⟨true, rfl, rfl, Lib.hid (fun _ => hh.out), fun h => by cases h⟩
      · have d2 : ((gs : Int) != (s0.size : Int)) = true := by rw [bne_iff_ne]; omega
        have hh := Lib.hid (hfr.out (.inr (.inl h2)))
        clear h1 h2 hfr
        go_wp2_with fail
        go_meet
        exact ⟨true, rfl, rfl, Lib.hid (fun _ => hh.out), fun h => by cases h⟩
    · have d1 : ((ge : Int) != 0) = true := by rw [bne_iff_ne]; omega
      have hh := Lib.hid (hfr.out (.inl h1))
      clear h1 hfr
      go_wp2_with fail
      go_meet
      exact ⟨true, rfl, rfl, Lib.hid (fun _ => hh.out), fun h => by cases h⟩
  case rest =>
    clear hfr
    obtain ⟨c, rfl, rfl, hD1, hcs⟩ := hcut
    cases c with
    | true =>
      have hD := Lib.hid (hD1.out rfl)
      clear hD1 hcs hno hyes a4 a5
      obtain ⟨c0, c1, c2, c3, c4, c5⟩ := hresq.out.cells
      have z0 := hresq.out.frozen 0
      obtain ⟨⟨p1, q1⟩, ⟨p2, q2⟩, ⟨p3, q3⟩, ⟨p4, q4⟩, ⟨p5, q5⟩⟩ := hresq.out.roads svZ
      have hfz := hresq.out.setAll svZ
      have huz : New0 w (setSix w.heap.size svZ _) := upon_setSix uq.out (.inr (Nat.le_refl _))
      obtain ⟨r0, r1, r2, r3, r4, r5⟩ := hfz.cells
      dsimp only [svZ, setSix] at c0 c1 c2 c3 c4 c5 p1 q1 p2 q2 p3 q3 p4 q4 p5 q5 r0 r1 r2 r3 r4 r5 huz
      have hend := Lib.hid (DecE.no hD.out huz)
      clear huz hfz hresq uq
      go_wp2_with fail
      refine bodyPost_ret (v := .tuple #[.agg #[.int .i64 0, .int .i64 0, .int .i64 0, .int .i64 0, .int .i64 0, .slice none 0 0], .int .i64 3]) (by simp [results, Tryd.results12, go_sem, r0, r1, r2, r3, r4, r5]) rfl ?_
      exact hend.out
    | false =>
      obtain ⟨rfl, rfl, rfl⟩ := hcs rfl
      clear hD1 hcs a4
      rw [show ((6 : Nat) : Int) = 6 from rfl] at uq hresq a5
      obtain ⟨wq, hwq⟩ : ∃ wq, w1.alloc (.cells #[.int .i64 6, .string d] 61 (0, 0)) = wq := ⟨_, rfl⟩
      have hzq : wq.heap.size = w1.heap.size + 1 := by rw [← hwq]; simp
      obtain ⟨w2, hw2⟩ : ∃ w2, (w1.alloc (.cells #[.int .i64 6, .string d] 61 (0, 0))).alloc (.cells #[.string d, .bool false] 70 (0, 0)) = w2 := ⟨_, rfl⟩
      have n2 : New0 wq w2 := by rw [← hw2, hwq]; exact (Upon.refl _ wq).alloc _
      have hI0 : RdO (w1.heap.size + 1) d false w2 (fun x => x = w1.heap.size + 1) := by rw [← hw2, hwq, ← hzq]; exact ⟨cell_new wq _, fun _ => Iff.rfl⟩
      rw [hwq] at uq hresq
      have hu2 := Lib.hid (uq.out.trans n2)
      have hS2 := Lib.hid (hresq.out.new n2)
      have hM := Lib.hid (pman_any w2 _ (w1.heap.size + 1) d (by omega) hI0)
      have hPw : w.heap.size < w1.heap.size + 1 := by omega
      have hz2 : w1.heap.size + 1 < w2.heap.size := by rw [← hw2]; simp
      obtain ⟨P, hP⟩ : ∃ P, w1.heap.size + 1 = P := ⟨_, rfl⟩
      rw [hP] at hM hPw hz2
      replace hP := Lib.hid hP
      replace hw2 := Lib.hid hw2
      clear n2 uq hresq hwq hzq hI0
      go_wp2_with fail
      rw [hw2.out, hP.out]
      refine hM.out.mono ?_
      rintro e w3 ⟨m, s', b', ⟨uA, un, uc⟩, rfl, hV, hB, hO, hR⟩
      have hun : un = m.blocks.length := by
        obtain ⟨A, c, h1, -⟩ := Rw.View.shape hV
        simp only [Rw.Sl.v, Value.slice.injEq] at h1
        exact h1.2.1
      subst hun
      have hu3 := Lib.hid (hu2.out.trans' hO.upon (fun i hi e => by have e : i = P := e; omega))
      have hS3 := Lib.hid (hS2.out.upon hO.upon (by have := hPw; show ¬ _ = P; omega))
      obtain ⟨A, hA⟩ := seeW hO
      obtain ⟨c0, c1, f0, f1⟩ := Rw.box2See hA
      have hV3 : Hid (NView w3 (fun b => w.heap.size < b) (.slice uA m.blocks.length uc) m.blocks) := Lib.hid (Rw.View.mono hV fun b _ hb => by have h2 : w2.heap.size ≤ b := hb; show w.heap.size < b; omega)
      have hok : Hid (b' = false → (s'.data.toList = [] → chk m = 0 → Dec s0 m 0) ∧ (s'.data.toList ≠ [] ∨ chk m ≠ 0 → Dec s0 zero 3)) := Lib.hid (fun h => hyes.out m _ (by first | trivial | rfl) (by first | trivial | rfl) (by first | trivial | rfl) ((hR.1 h).symm))
      have hbd : Hid (b' = true → Dec s0 zero 3) := Lib.hid (fun h => by obtain ⟨x, hx⟩ := hR.2 h; exact hno.out x hx)
      replace hB := Lib.hid hB
      clear hM hw2 hP hu2 hS2 hno hyes hR hO hA hV a5
      obtain ⟨w4, hw4⟩ : ∃ w4, w3.alloc (.cells #[.int .i64 m.epoch, .int .i64 m.base, .int .i64 m.promise, .int .i64 m.mark, .int .i64 m.check, .slice uA m.blocks.length uc] 26 (0, 0)) = w4 := ⟨_, rfl⟩
      have n4 : New0 w3 w4 := by rw [← hw4]; exact (Upon.refl _ w3).alloc _
      have hx4 : Six 26 w3.heap.size ⟨.int .i64 m.epoch, .int .i64 m.base, .int .i64 m.promise, .int .i64 m.mark, .int .i64 m.check, .slice uA m.blocks.length uc⟩ w4 := by rw [← hw4]; exact six_new _ w3 ⟨.int .i64 m.epoch, .int .i64 m.base, .int .i64 m.promise, .int .i64 m.mark, .int .i64 m.check, .slice uA m.blocks.length uc⟩
      have hb4 := boxed_new ⟨c0, c1, f0, f1⟩ n4
      have hu4 := Lib.hid (hu3.out.trans n4)
      have hS4 := Lib.hid (hS3.out.new n4)
      have hV4 := Lib.hid (Rw.View.new hV3.out n4)
      obtain ⟨g, hg⟩ : ∃ g, w3.heap.size = g := ⟨_, rfl⟩
      rw [hg] at hx4
      clear c0 c1 f0 f1 hu3 hS3 hV3 n4
      obtain ⟨c0, c1, f0, f1⟩ := hb4
      have hC := Lib.hid (pcheck_any w4 _ _ m ⟨⟨uA, m.blocks.length, uc⟩, rfl, hV4.out⟩ hB.out)
      replace hx4 := Lib.hid hx4
      replace hg := Lib.hid hg
      replace hw4 := Lib.hid hw4
      go_upto_region 6 with fail
      rw [hw4.out, hg.out]
      go_cut [44] from 33 to 44 (fun cv wx => ∃ c : Bool, cv = .bool c ∧ Hid (New0 w4 wx) ∧ Hid (c = true → Dec s0 zero 3) ∧ Hid (c = false → Dec s0 m 0))
      case first =>
        obtain ⟨k0, k1, k2, k3, k4, k5⟩ := hx4.out.cells
        clear hu4 hS4 hV4 hB hg hw4 hx4
        cases b' with
        | true =>
          have hD := Lib.hid (hbd.out rfl)
          clear hbd hok hC
          go_wp2_with fail
          go_meet
          exact ⟨true, rfl, Lib.hid (Upon.refl _ _), Lib.hid (fun _ => hD.out), Lib.hid (fun h => by cases h)⟩
        | false =>
          cases hb6 : s'.toList.isEmpty with
          | false =>
            have hD := Lib.hid ((hok.out rfl).2 (.inl (fun e => by rw [ByteArray.toList_eq, e] at hb6; cases hb6)))
            clear hbd hok hC
            go_wp2_with fail
            go_meet
            exact ⟨true, rfl, Lib.hid (Upon.refl _ _), Lib.hid (fun _ => hD.out), Lib.hid (fun h => by cases h)⟩
          | true =>
            have hnil : s'.data.toList = [] := by rw [ByteArray.toList_eq, List.isEmpty_iff] at hb6; exact hb6
            by_cases hz : chk m = 0
            · have hD := Lib.hid ((hok.out rfl).1 hnil hz)
              rw [hz] at hC
              clear hbd hok hnil hz
              go_wp2_with fail
              refine hC.out.mono ?_
              rintro e w5 ⟨rfl, hn5⟩
              replace hn5 := Lib.hid hn5
              clear hC c0 c1 f0 f1 k0 k1 k2 k3 k4 k5
              go_wp2_with fail
              go_meet
              exact ⟨false, rfl, hn5, Lib.hid (fun h => by cases h), Lib.hid (fun _ => hD.out)⟩
            · have hD := Lib.hid ((hok.out rfl).2 (.inr hz))
              have dz : (chk m != 0) = true := by rw [bne_iff_ne]; exact hz
              clear hbd hok hnil hz
              go_wp2_with fail
              refine hC.out.mono ?_
              rintro e w5 ⟨rfl, hn5⟩
              replace hn5 := Lib.hid hn5
              clear hC c0 c1 f0 f1 k0 k1 k2 k3 k4 k5
              go_wp2_with fail
              go_meet
              exact ⟨true, rfl, hn5, Lib.hid (fun _ => hD.out), Lib.hid (fun h => by cases h)⟩
      case rest =>
        clear hC hok hbd hg hw4 c0 c1 f0 f1
        obtain ⟨c, rfl, hn5, hD1, hD2⟩ := hcut
        have hu5 := Lib.hid (hu4.out.trans hn5.out)
        have hS5 := Lib.hid (hS4.out.new hn5.out)
        have hV5 := Lib.hid (Rw.View.new hV4.out hn5.out)
        have hx5 := Lib.hid (hx4.out.new hn5.out)
        clear hu4 hS4 hV4 hx4 hn5
        cases c with
        | true =>
          have hD := Lib.hid (hD1.out rfl)
          clear hD1 hD2 hV5 hx5 hB
          obtain ⟨c0, c1, c2, c3, c4, c5⟩ := hS5.out.cells
          have z0 := hS5.out.frozen 0
          obtain ⟨⟨p1, q1⟩, ⟨p2, q2⟩, ⟨p3, q3⟩, ⟨p4, q4⟩, ⟨p5, q5⟩⟩ := hS5.out.roads svZ
          have hfz := hS5.out.setAll svZ
          have huz : New0 w (setSix w.heap.size svZ _) := upon_setSix hu5.out (.inr (Nat.le_refl _))
          obtain ⟨r0, r1, r2, r3, r4, r5⟩ := hfz.cells
          dsimp only [svZ, setSix] at c0 c1 c2 c3 c4 c5 p1 q1 p2 q2 p3 q3 p4 q4 p5 q5 r0 r1 r2 r3 r4 r5 huz
          have hend := Lib.hid (DecE.no hD.out huz)
          clear huz hfz hS5 hu5
          go_wp2_with fail
          refine bodyPost_ret (v := .tuple #[.agg #[.int .i64 0, .int .i64 0, .int .i64 0, .int .i64 0, .int .i64 0, .slice none 0 0], .int .i64 3]) (by simp [results, Tryd.results12, go_sem, r0, r1, r2, r3, r4, r5]) rfl ?_
          exact hend.out
        | false =>
          have hD := Lib.hid (hD2.out rfl)
          clear hD1 hD2
          obtain ⟨k0, k1, k2, k3, k4, k5⟩ := hx5.out.cells
          obtain ⟨c0, c1, c2, c3, c4, c5⟩ := hS5.out.cells
          have z0 := hS5.out.frozen 0
          obtain ⟨⟨p1, q1⟩, ⟨p2, q2⟩, ⟨p3, q3⟩, ⟨p4, q4⟩, ⟨p5, q5⟩⟩ := hS5.out.roads ⟨.int .i64 m.epoch, .int .i64 m.base, .int .i64 m.promise, .int .i64 m.mark, .int .i64 m.check, .slice uA m.blocks.length uc⟩
          have hF := hS5.out.setAll ⟨.int .i64 m.epoch, .int .i64 m.base, .int .i64 m.promise, .int .i64 m.mark, .int .i64 m.check, .slice uA m.blocks.length uc⟩
          have huz : New0 w (setSix w.heap.size ⟨.int .i64 m.epoch, .int .i64 m.base, .int .i64 m.promise, .int .i64 m.mark, .int .i64 m.check, .slice uA m.blocks.length uc⟩ wc) := upon_setSix hu5.out (.inr (Nat.le_refl _))
          have hVz : NView (setSix w.heap.size ⟨.int .i64 m.epoch, .int .i64 m.base, .int .i64 m.promise, .int .i64 m.mark, .int .i64 m.check, .slice uA m.blocks.length uc⟩ wc) (Lb.Nw w) (.slice uA m.blocks.length uc) m.blocks := Rw.View.mono (Rw.View.upon hV5.out (show Upon (fun k => k = w.heap.size) wc _ from upon_setSix (Upon.refl _ _) (.inl rfl)) (fun b hb e => by have h2 : w.heap.size < b := hb; omega)) fun b _ hb => by have h2 : w.heap.size < b := hb; show w.heap.size ≤ b; omega
          obtain ⟨r0, r1, r2, r3, r4, r5⟩ := hF.cells
          dsimp only [svZ, setSix] at c0 c1 c2 c3 c4 c5 p1 q1 p2 q2 p3 q3 p4 q4 p5 q5 r0 r1 r2 r3 r4 r5
          have hend : Hid (DecE w s0 (.returned (.tuple #[.agg #[.int .i64 m.epoch, .int .i64 m.base, .int .i64 m.promise, .int .i64 m.mark, .int .i64 m.check, .slice uA m.blocks.length uc], .int .i64 0])) (setSix w.heap.size ⟨.int .i64 m.epoch, .int .i64 m.base, .int .i64 m.promise, .int .i64 m.mark, .int .i64 m.check, .slice uA m.blocks.length uc⟩ wc)) := Lib.hid ⟨m, 0, ⟨uA, m.blocks.length, uc⟩, rfl, hD.out, hVz, hB.out, huz⟩
          dsimp only [setSix] at hend
          clear hF huz hVz hS5 hu5 hV5 hx5 hB hD
          go_wp2_with fail
          refine bodyPost_ret (v := .tuple #[.agg #[.int .i64 m.epoch, .int .i64 m.base, .int .i64 m.promise, .int .i64 m.mark, .int .i64 m.check, .slice uA m.blocks.length uc], .int .i64 0]) (by simp [results, Tryd.results12, go_sem, r0, r1, r2, r3, r4, r5]) rfl ?_
          exact hend.out
end Mf
end Go.Proofs.YtjpgglajcelllaaDoor
