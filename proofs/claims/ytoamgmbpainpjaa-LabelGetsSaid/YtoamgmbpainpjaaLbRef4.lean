/- The document's own labels (layer 10): Decode. -/
import Derived.Test.YtoamgmbpainpjaaLbRef3
set_option maxRecDepth 100000
namespace Go.Proofs.Ytoamgmbpainpjaa
open Go.RowKit Go.Sort
namespace Lb
open Bit Dsk Ob Dig
set_option linter.unusedVariables false

/-- How far Decode is. -/
def St (s : List UInt8) (n e j : Nat) (l : List Pr) (r : List UInt8) : Prop := (e ≠ 0 ∧ dec s = ([], e)) ∨ (e = 0 ∧ ∃ k, gotN s = (n, k, 0) ∧ ¬ (n < 1 ∨ 8 < n) ∧ Read n (s.drop k) j l r)
theorem St.start {s : List UInt8} {n k x : Nat} {b : Bool} (h : gotN s = (n, k, x)) (hb : b = true ↔ 1 ≤ n ∧ n ≤ 8) : St s n (mustE b x 16) 0 [] (s.drop k) := by
  by_cases hx : x = 0
  · subst hx
    cases b with
    | true => exact .inr ⟨by simp [mustE], k, h, by have := hb.1 rfl; omega, Read.start _ _⟩
    | false =>
      have hn : n < 1 ∨ 8 < n := by
        by_cases c : 1 ≤ n ∧ n ≤ 8
        · exact absurd (hb.2 c) (by decide)
        · omega
      exact .inl ⟨by simp [mustE], by rw [dec_few h hn]; simp [mustE]⟩
  · have e : mustE b x 16 = x := by simp [mustE, hx]
    rw [e]
    exact .inl ⟨hx, dec_num h hx⟩
theorem St.few {s : List UInt8} {n j : Nat} {l : List Pr} {r : List UInt8} (h : St s n 0 j l r) : l.length = j ∧ j ≤ n ∧ n ≤ 8 := by
  rcases h with ⟨h, -⟩ | ⟨-, k, -, h2, h3, h4, -⟩
  · exact absurd rfl h
  · exact ⟨h4, h3, by omega⟩
theorem St.step {s : List UInt8} {n j : Nat} {l : List Pr} {r r1 r2 : List UInt8} {a b : ByteArray} {e : Nat} (h : St s n 0 j l r) (hj : j < n) (h1 : txt 32 r = (a, r1, 0)) (h2 : txt 64 r1 = (b, r2, e)) : St s n e (j + 1) (l ++ [(a, b)]) r2 := by
  rcases h with ⟨h, -⟩ | ⟨-, k, k1, k2, k3⟩
  · exact absurd rfl h
  · by_cases he : e = 0
    · subst he; exact .inr ⟨rfl, k, k1, k2, k3.step hj h1 h2⟩
    · exact .inl ⟨he, dec_bad k1 k2 (k3.bad2 hj h1 h2 he) he⟩
theorem St.bad {s : List UInt8} {n j j' : Nat} {l l' : List Pr} {r r1 r' : List UInt8} {a : ByteArray} {e : Nat} (h : St s n 0 j l r) (hj : j < n) (h1 : txt 32 r = (a, r1, e)) (he : e ≠ 0) : St s n e j' l' r' := by
  rcases h with ⟨h, -⟩ | ⟨-, k, k1, k2, k3⟩
  · exact absurd rfl h
  · exact .inl ⟨he, dec_bad k1 k2 (k3.bad1 hj h1 he) he⟩
theorem St.fin {s : List UInt8} {n e j : Nat} {l : List Pr} {r : List UInt8} {b1 b2 : Bool} (h : St s n e j l r) (hj : ¬ j < n ∨ e ≠ 0) (h1 : b1 = true ↔ r = []) (h2 : b2 = true ↔ chk l = 0) :
    dec s = if mustE b2 (mustE b1 e 6) 16 = 0 then (l, 0) else ([], mustE b2 (mustE b1 e 6) 16) := by
  rcases h with ⟨he, hd⟩ | ⟨he, k, k1, k2, k3⟩
  · have e1 : mustE b2 (mustE b1 e 6) 16 = e := by simp [mustE, he]
    rw [e1, if_neg he, hd]
  · subst he
    have hp := k3.last (hj.resolve_right fun f => f rfl)
    cases b1 with
    | false =>
      have hr : r ≠ [] := fun c => absurd (h1.2 c) (by decide)
      rw [dec_more k1 k2 hp hr]; simp [mustE]
    | true =>
      obtain rfl := h1.1 rfl
      cases b2 with
      | false =>
        have hl : ¬ Ok l := fun c => absurd (h2.2 (chk_ok c)) (by decide)
        rw [dec_label k1 k2 hp hl]; simp [mustE]
      | true =>
        rw [dec_ok k1 k2 hp (chk_iff.1 (h2.1 rfl))]; simp [mustE]
theorem txt_is {m : Int} {r : ByteArray} {n k x : Nat} (h : gotT r.data.toList m = (n, k, x)) : txt m r.data.toList = (r.extract k (k + n), (r.extract (k + n) r.size).data.toList, x) := by
  have hl := gotT_le h
  have hlen : r.data.toList.length = r.size := by simp
  unfold txt
  rw [h]
  refine Prod.ext ?_ (Prod.ext ?_ rfl)
  · refine data_inj ?_
    show (r.data.toList.drop k).take n = _
    rw [extract_list, List.drop_take]
    congr 1; omega
  · show r.data.toList.drop (k + n) = _
    rw [extract_list, List.take_of_length_le (by omega)]
theorem ext_size (r : ByteArray) (a b : Nat) : (r.extract a b).size ≤ r.size := by rw [ByteArray.size_extract]; omega
theorem drop_list (s : ByteArray) (k : Nat) : (s.extract k s.size).data.toList = s.data.toList.drop k := by
  rw [extract_list, List.take_of_length_le (by rw [Array.length_toList]; exact Nat.le_refl _)]
/-- The reader of fields with the pairs so far. -/
abbrev InP (p : Nat) (s : ByteArray) (e : Nat) (u : Value) (l : List Pr) : Ob.Rel := Tens (InO p s e) (Rw.RowO layPr 39 u l)
theorem thingRowP (u : Value) (l : List Pr) : Thing (Rw.RowO layPr 39 u l) := Rw.thingRow _ _ _ _
theorem thingInP (p : Nat) (s : ByteArray) (e : Nat) (u : Value) (l : List Pr) : Thing (InP p s e u l) := Tens.ob (thingIn _ _ _) (thingRowP _ _)
theorem inpBox {p : Nat} {s : ByteArray} {e : Nat} {u : Value} {l : List Pr} {w0 w : World} (h : Own (InP p s e u l) w0 w) : Boxed p (.string s) (.int .i64 (e : Int)) w := by
  obtain ⟨A, hA⟩ := h.seeL
  exact Rw.box2See hA
theorem inpMust {p : Nat} {s : ByteArray} {e : Nat} {u : Value} {l : List Pr} {w0 w : World} (h : Own (InP p s e u l) w0 w) (b : Bool) (y : Nat) :
    Calls Try.prog 36 #[.pointer (some ⟨p, 0, none⟩), .bool b, .int .i64 (y : Int)] w fun r w' => r = .returned (.tuple #[]) ∧ Own (InP p s (mustE b e y) u l) w0 w' :=
  ownL (Q := fun r => r = .returned (.tuple #[])) (thingRowP u l) h fun A _ hA => inmust_any w A p s b e y hA
theorem inpText {p : Nat} {r : ByteArray} {u : Value} {l : List Pr} {w0 w : World} {most : Int} {n k x : Nat} (h : Own (InP p r 0 u l) w0 w) (hs : r.size ≤ 4611686018427387904) (hm : most ≤ 9223372036854775807) (hg : gotT r.data.toList most = (n, k, x)) :
    Calls Try.prog 37 #[.pointer (some ⟨p, 0, none⟩), .int .i64 most] w fun e w' => e = .returned (.string (r.extract k (k + n))) ∧ Own (InP p (r.extract (k + n) r.size) x u l) w0 w' :=
  ownL (Q := fun e => e = .returned (.string (r.extract k (k + n)))) (thingRowP u l) h fun A _ hA => intext_any w A p r most hs hm n k x hg _ _ rfl rfl hA
theorem inpTextNo {p : Nat} {r : ByteArray} {u : Value} {l : List Pr} {w0 w : World} {most : Int} {e : Nat} (h : Own (InP p r e u l) w0 w) (he : e ≠ 0) :
    Calls Try.prog 37 #[.pointer (some ⟨p, 0, none⟩), .int .i64 most] w fun x w' => x = .returned (.string ByteArray.empty) ∧ Own (InP p r e u l) w0 w' :=
  ownL (Q := fun x => x = .returned (.string ByteArray.empty)) (thingRowP u l) h fun A _ hA => intext_err w A p r most e he hA
theorem Sml.snoc {l : List Pr} {a b : ByteArray} (h : Sml l) (ha : a.size ≤ 9223372036854775807) (hb : b.size ≤ 9223372036854775807) : Sml (l ++ [(a, b)]) := fun p hp => by
  rcases List.mem_append.1 hp with hp | hp
  · exact h p hp
  · rw [List.mem_singleton.1 hp]; exact ⟨ha, hb⟩
set_option maxHeartbeats 6400000 in
theorem refdec_any (w : World) (s : ByteArray) (hs : s.size ≤ 140737488355328) :
    Calls Try.prog 20 #[.string s] w fun e w' => ∃ v, e = .returned (.tuple #[v, .int .i64 ((dec s.data.toList).2 : Int)]) ∧ View w' All v (dec s.data.toList).1 ∧ New0 w w' := by
  obtain ⟨n, k, x, hg⟩ : ∃ n k x, gotN s.data.toList = (n, k, x) := ⟨_, _, _, rfl⟩
  have hn64 : n < 18446744073709551616 := by
    have := (gotN_lt s.data.toList).1
    rw [hg] at this
    exact this
  have hst0 := Lib.hid (fun (b : Bool) hb => St.start (b := b) hg hb)
  obtain ⟨t, ht⟩ : ∃ t, s.extract k s.size = t := ⟨_, rfl⟩
  have hts : t.size ≤ 140737488355328 := by rw [← ht]; exact Nat.le_trans (ext_size _ _ _) hs
  have htl : Hid (s.data.toList.drop k = t.data.toList) := Lib.hid (by rw [← ht, drop_list])
  have H0 : Hid (Own (InO w.heap.size s 0) w (w.alloc (.cells #[.string s, .int .i64 0] 53 (0, 0)))) := Lib.hid (Rw.box2Own (Below.refl _ _) (.string s) (.int .i64 ((0 : Nat) : Int)) _)
  have HN := Lib.hid (ownW (Q := fun e => e = .returned (.int .u64 (n : Int))) (I' := InO w.heap.size t x) H0.out fun A _ hA => innum_any _ A _ s (by omega) n k x hg t ht hA)
  obtain ⟨sl, hsl⟩ : ∃ sl, s.data.toList = sl := ⟨_, rfl⟩
  rw [hsl] at hst0 htl ⊢
  clear hg ht H0 hsl
  by_cases hc : n < 1
  · have d1 : ¬ (1 : Int) ≤ (n : Int) := by omega
    have hb : Hid (St sl n (mustE false x 16) 0 [] t.data.toList) := Lib.hid (by rw [← htl.out]; exact hst0.out false (by simp; omega))
    clear hst0 htl
    go_enter Try.func20, Try.ntmps20
    go_wp2_with fail
    refine HN.out.mono ?_
    rintro e w2 ⟨rfl, h2⟩
    have HM := Lib.hid (ownW (Q := fun r => r = .returned (.tuple #[])) (I' := InO w.heap.size t (mustE false x 16)) h2 fun A _ hA => inmust_any w2 A _ t false x 16 hA)
    clear HN h2
    go_wp2_with fail
    refine HM.out.mono ?_
    rintro e w3 ⟨rfl, h3⟩
    obtain ⟨e0, he0⟩ : ∃ e0, mustE false x 16 = e0 := ⟨_, rfl⟩
    rw [he0] at hb h3
    have hI := Lib.hid (Rw.rowNone layPr 39 (thingIn _ _ _) h3)
    clear HM h3 he0
    obtain ⟨p, hp⟩ : ∃ p, w.heap.size = p := ⟨_, rfl⟩
    rw [hp] at hI ⊢
    replace hp := Lib.hid hp
    go_wp2_with fail
    go_loopw [6, 7] (fun u ov wr => ∃ (j e : Nat) (l : List Pr) (r : ByteArray), ov = .int .u64 (j : Int) ∧ j ≤ n ∧ r.size ≤ 140737488355328 ∧ Hid (Sml l) ∧ Hid (St sl n e j l r.data.toList) ∧ Hid (Own (InP p r e u l) w wr)) (fun _ ov _ => n - (intOf ov).toNat)
    case atStart => exact ⟨0, e0, [], t, rfl, Nat.zero_le _, hts, Lib.hid (fun p hp => by simp at hp), hb, hI⟩
    case round =>
      obtain ⟨j, e, l, r, rfl, hj, hr, hsm, hst, ho⟩ := hrel
      clear hb hI d1
      obtain ⟨c0, c1, f0, f1⟩ := inpBox ho.out
      by_cases hgo : j < n ∧ e = 0
      · obtain ⟨hlt, rfl⟩ := hgo
        have hfew := hst.out.few
        omega
      · obtain ⟨b1, hb1⟩ : ∃ b1, r.toList.isEmpty = b1 := ⟨_, rfl⟩
        obtain ⟨q, hq⟩ : ∃ q, chk l = q := ⟨_, rfl⟩
        have hfin := Lib.hid (hst.out.fin (b1 := b1) (b2 := ((q : Int) == 0)) (by by_cases c : j < n <;> by_cases c2 : e = 0 <;> simp_all) (by rw [← hb1, ByteArray.toList_eq, List.isEmpty_iff]) (by rw [beq_iff_eq, hq]; omega))
        have HM1 := Lib.hid (inpMust ho.out b1 6)
        replace hq := Lib.hid hq
        clear hst ho
        by_cases hlt : j < n
        · omega
        · clear hgo
          go_wp2_with fail
          refine HM1.out.mono ?_
          rintro e w4 ⟨rfl, h4⟩
          have HC := Lib.hid (refcheck_any w4 _ u6 l (Rw.rowSee h4).view hsm.out)
          rw [hq.out] at HC
          replace h4 := Lib.hid h4
          clear HM1 c0 c1 f0 f1
          obtain ⟨A, c, hu6_, -, -⟩ := Rw.View.shape (Rw.rowSee h4.out).view
          replace hu6_ := Lib.hid hu6_
          go_wp2_with fail
          refine HC.out.mono ?_
          rintro e w5 ⟨rfl, n5, rfl⟩
          have HM2 := Lib.hid (inpMust (Own.upon0 (thingInP _ _ _ _ _) h4.out (upon_drewN _ w4 n5)) ((q : Int) == 0) 16)
          clear HC h4
          go_wp2_with fail
          refine HM2.out.mono ?_
          rintro e w6 ⟨rfl, h6⟩
          clear HM2
          obtain ⟨f, hf⟩ : ∃ f, mustE ((q : Int) == 0) (mustE b1 e 6) 16 = f := ⟨_, rfl⟩
          rw [hf] at hfin h6
          obtain ⟨c0, c1, f0, f1⟩ := inpBox h6
          replace h6 := Lib.hid h6
          clear hf
          by_cases hf0 : f = 0
          · subst hf0
            have hD : Hid (dec sl = (l, 0)) := Lib.hid (by rw [hfin.out, if_pos rfl])
            have hV : Hid (View w6 All u6 (dec sl).1) := Lib.hid (by rw [hD.out]; exact (Rw.rowSee h6.out).view.all)
            have hE : Hid (Ending.returned (.tuple #[u6, .int .i64 0]) = .returned (.tuple #[u6, .int .i64 ((dec sl).2 : Int)])) := Lib.hid (by rw [hD.out]; rfl)
            have hN := Lib.hid (newOf h6.out.bel)
            clear hfin h6 hD
            go_wp2_with fail
            go_ret2
            exact ⟨u6, hE.out, hV.out, hN.out⟩
          · have d3 : ((f : Int) != 0) = true := by rw [bne_iff_ne]; omega
            have hD : Hid (dec sl = ([], f)) := Lib.hid (by rw [hfin.out, if_neg hf0])
            have hE : Hid (Ending.returned (.tuple #[.slice none 0 0, .int .i64 (f : Int)]) = .returned (.tuple #[.slice none 0 0, .int .i64 ((dec sl).2 : Int)])) := Lib.hid (by rw [hD.out])
            have hV : Hid (∀ w', View w' All (.slice none 0 0) (dec sl).1) := Lib.hid (fun w' => by rw [hD.out]; exact Rw.View.noth _ _ _)
            have hN := Lib.hid (fun n => (newOf h6.out.bel).trans (upon_drewN _ w6 n))
            clear hfin h6 hD hf0
            go_wp2_with fail
            go_quiet (fail)
            go_wp2_with fail
            go_ret2
            exact ⟨_, hE.out, hV.out _, hN.out _⟩

  by_cases hc : 8 < n
  · have d1 : (1 : Int) ≤ (n : Int) := by omega
    have d2 : decide ((n : Int) ≤ 8) = false := decide_eq_false (by omega)
    have d2' : decide (n ≤ 8) = false := decide_eq_false (by omega)
    have hb : Hid (St sl n (mustE false x 16) 0 [] t.data.toList) := Lib.hid (by rw [← htl.out]; exact hst0.out false (by simp; omega))
    clear hst0 htl
    go_enter Try.func20, Try.ntmps20
    go_wp2_with fail
    refine HN.out.mono ?_
    rintro e w2 ⟨rfl, h2⟩
    have HM := Lib.hid (ownW (Q := fun r => r = .returned (.tuple #[])) (I' := InO w.heap.size t (mustE false x 16)) h2 fun A _ hA => inmust_any w2 A _ t false x 16 hA)
    clear HN h2
    go_wp2_with fail
    refine HM.out.mono ?_
    rintro e w3 ⟨rfl, h3⟩
    obtain ⟨e0, he0⟩ : ∃ e0, mustE false x 16 = e0 := ⟨_, rfl⟩
    rw [he0] at hb h3
    have hI := Lib.hid (Rw.rowNone layPr 39 (thingIn _ _ _) h3)
    clear HM h3 he0
    obtain ⟨p, hp⟩ : ∃ p, w.heap.size = p := ⟨_, rfl⟩
    rw [hp] at hI ⊢
    replace hp := Lib.hid hp
    go_wp2_with fail
    go_loopw [6, 7] (fun u ov wr => ∃ (j e : Nat) (l : List Pr) (r : ByteArray), ov = .int .u64 (j : Int) ∧ j ≤ n ∧ r.size ≤ 140737488355328 ∧ Hid (Sml l) ∧ Hid (St sl n e j l r.data.toList) ∧ Hid (Own (InP p r e u l) w wr)) (fun _ ov _ => n - (intOf ov).toNat)
    case atStart => exact ⟨0, e0, [], t, rfl, Nat.zero_le _, hts, Lib.hid (fun p hp => by simp at hp), hb, hI⟩
    case round =>
      obtain ⟨j, e, l, r, rfl, hj, hr, hsm, hst, ho⟩ := hrel
      clear hb hI d1 d2 d2'
      obtain ⟨c0, c1, f0, f1⟩ := inpBox ho.out
      by_cases hgo : j < n ∧ e = 0
      · obtain ⟨hlt, rfl⟩ := hgo
        have hfew := hst.out.few
        omega
      · obtain ⟨b1, hb1⟩ : ∃ b1, r.toList.isEmpty = b1 := ⟨_, rfl⟩
        obtain ⟨q, hq⟩ : ∃ q, chk l = q := ⟨_, rfl⟩
        have hfin := Lib.hid (hst.out.fin (b1 := b1) (b2 := ((q : Int) == 0)) (by by_cases c : j < n <;> by_cases c2 : e = 0 <;> simp_all) (by rw [← hb1, ByteArray.toList_eq, List.isEmpty_iff]) (by rw [beq_iff_eq, hq]; omega))
        have HM1 := Lib.hid (inpMust ho.out b1 6)
        replace hq := Lib.hid hq
        clear hst ho
        by_cases hlt : j < n
        · have he : e ≠ 0 := fun c => hgo ⟨hlt, c⟩
          have d0 : ((e : Int) == 0) = false := by rw [beq_eq_false_iff_ne]; omega
          clear hgo he
          go_wp2_with fail
          refine HM1.out.mono ?_
          rintro e w4 ⟨rfl, h4⟩
          have HC := Lib.hid (refcheck_any w4 _ u6 l (Rw.rowSee h4).view hsm.out)
          rw [hq.out] at HC
          replace h4 := Lib.hid h4
          clear HM1 c0 c1 f0 f1
          obtain ⟨A, c, hu6_, -, -⟩ := Rw.View.shape (Rw.rowSee h4.out).view
          replace hu6_ := Lib.hid hu6_
          go_wp2_with fail
          refine HC.out.mono ?_
          rintro e w5 ⟨rfl, n5, rfl⟩
          have HM2 := Lib.hid (inpMust (Own.upon0 (thingInP _ _ _ _ _) h4.out (upon_drewN _ w4 n5)) ((q : Int) == 0) 16)
          clear HC h4
          go_wp2_with fail
          refine HM2.out.mono ?_
          rintro e w6 ⟨rfl, h6⟩
          clear HM2
          obtain ⟨f, hf⟩ : ∃ f, mustE ((q : Int) == 0) (mustE b1 e 6) 16 = f := ⟨_, rfl⟩
          rw [hf] at hfin h6
          obtain ⟨c0, c1, f0, f1⟩ := inpBox h6
          replace h6 := Lib.hid h6
          clear hf
          by_cases hf0 : f = 0
          · subst hf0
            have hD : Hid (dec sl = (l, 0)) := Lib.hid (by rw [hfin.out, if_pos rfl])
            have hV : Hid (View w6 All u6 (dec sl).1) := Lib.hid (by rw [hD.out]; exact (Rw.rowSee h6.out).view.all)
            have hE : Hid (Ending.returned (.tuple #[u6, .int .i64 0]) = .returned (.tuple #[u6, .int .i64 ((dec sl).2 : Int)])) := Lib.hid (by rw [hD.out]; rfl)
            have hN := Lib.hid (newOf h6.out.bel)
            clear hfin h6 hD
            go_wp2_with fail
            go_ret2
            exact ⟨u6, hE.out, hV.out, hN.out⟩
          · have d3 : ((f : Int) != 0) = true := by rw [bne_iff_ne]; omega
            have hD : Hid (dec sl = ([], f)) := Lib.hid (by rw [hfin.out, if_neg hf0])
            have hE : Hid (Ending.returned (.tuple #[.slice none 0 0, .int .i64 (f : Int)]) = .returned (.tuple #[.slice none 0 0, .int .i64 ((dec sl).2 : Int)])) := Lib.hid (by rw [hD.out])
            have hV : Hid (∀ w', View w' All (.slice none 0 0) (dec sl).1) := Lib.hid (fun w' => by rw [hD.out]; exact Rw.View.noth _ _ _)
            have hN := Lib.hid (fun n => (newOf h6.out.bel).trans (upon_drewN _ w6 n))
            clear hfin h6 hD hf0
            go_wp2_with fail
            go_quiet (fail)
            go_wp2_with fail
            go_ret2
            exact ⟨_, hE.out, hV.out _, hN.out _⟩

        · clear hgo
          go_wp2_with fail
          refine HM1.out.mono ?_
          rintro e w4 ⟨rfl, h4⟩
          have HC := Lib.hid (refcheck_any w4 _ u6 l (Rw.rowSee h4).view hsm.out)
          rw [hq.out] at HC
          replace h4 := Lib.hid h4
          clear HM1 c0 c1 f0 f1
          obtain ⟨A, c, hu6_, -, -⟩ := Rw.View.shape (Rw.rowSee h4.out).view
          replace hu6_ := Lib.hid hu6_
          go_wp2_with fail
          refine HC.out.mono ?_
          rintro e w5 ⟨rfl, n5, rfl⟩
          have HM2 := Lib.hid (inpMust (Own.upon0 (thingInP _ _ _ _ _) h4.out (upon_drewN _ w4 n5)) ((q : Int) == 0) 16)
          clear HC h4
          go_wp2_with fail
          refine HM2.out.mono ?_
          rintro e w6 ⟨rfl, h6⟩
          clear HM2
          obtain ⟨f, hf⟩ : ∃ f, mustE ((q : Int) == 0) (mustE b1 e 6) 16 = f := ⟨_, rfl⟩
          rw [hf] at hfin h6
          obtain ⟨c0, c1, f0, f1⟩ := inpBox h6
          replace h6 := Lib.hid h6
          clear hf
          by_cases hf0 : f = 0
          · subst hf0
            have hD : Hid (dec sl = (l, 0)) := Lib.hid (by rw [hfin.out, if_pos rfl])
            have hV : Hid (View w6 All u6 (dec sl).1) := Lib.hid (by rw [hD.out]; exact (Rw.rowSee h6.out).view.all)
            have hE : Hid (Ending.returned (.tuple #[u6, .int .i64 0]) = .returned (.tuple #[u6, .int .i64 ((dec sl).2 : Int)])) := Lib.hid (by rw [hD.out]; rfl)
            have hN := Lib.hid (newOf h6.out.bel)
            clear hfin h6 hD
            go_wp2_with fail
            go_ret2
            exact ⟨u6, hE.out, hV.out, hN.out⟩
          · have d3 : ((f : Int) != 0) = true := by rw [bne_iff_ne]; omega
            have hD : Hid (dec sl = ([], f)) := Lib.hid (by rw [hfin.out, if_neg hf0])
            have hE : Hid (Ending.returned (.tuple #[.slice none 0 0, .int .i64 (f : Int)]) = .returned (.tuple #[.slice none 0 0, .int .i64 ((dec sl).2 : Int)])) := Lib.hid (by rw [hD.out])
            have hV : Hid (∀ w', View w' All (.slice none 0 0) (dec sl).1) := Lib.hid (fun w' => by rw [hD.out]; exact Rw.View.noth _ _ _)
            have hN := Lib.hid (fun n => (newOf h6.out.bel).trans (upon_drewN _ w6 n))
            clear hfin h6 hD hf0
            go_wp2_with fail
            go_quiet (fail)
            go_wp2_with fail
            go_ret2
            exact ⟨_, hE.out, hV.out _, hN.out _⟩

  · have d1 : (1 : Int) ≤ (n : Int) := by omega
    have d2 : (n : Int) ≤ 8 := by omega
    have hb : Hid (St sl n (mustE true x 16) 0 [] t.data.toList) := Lib.hid (by rw [← htl.out]; exact hst0.out true (by simp; omega))
    clear hst0 htl
    go_enter Try.func20, Try.ntmps20
    go_wp2_with fail
    refine HN.out.mono ?_
    rintro e w2 ⟨rfl, h2⟩
    have HM := Lib.hid (ownW (Q := fun r => r = .returned (.tuple #[])) (I' := InO w.heap.size t (mustE true x 16)) h2 fun A _ hA => inmust_any w2 A _ t true x 16 hA)
    clear HN h2
    go_wp2_with fail
    refine HM.out.mono ?_
    rintro e w3 ⟨rfl, h3⟩
    obtain ⟨e0, he0⟩ : ∃ e0, mustE true x 16 = e0 := ⟨_, rfl⟩
    rw [he0] at hb h3
    have hI := Lib.hid (Rw.rowNone layPr 39 (thingIn _ _ _) h3)
    clear HM h3 he0
    obtain ⟨p, hp⟩ : ∃ p, w.heap.size = p := ⟨_, rfl⟩
    rw [hp] at hI ⊢
    replace hp := Lib.hid hp
    go_wp2_with fail
    go_loopw [6, 7] (fun u ov wr => ∃ (j e : Nat) (l : List Pr) (r : ByteArray), ov = .int .u64 (j : Int) ∧ j ≤ n ∧ r.size ≤ 140737488355328 ∧ Hid (Sml l) ∧ Hid (St sl n e j l r.data.toList) ∧ Hid (Own (InP p r e u l) w wr)) (fun _ ov _ => n - (intOf ov).toNat)
    case atStart => exact ⟨0, e0, [], t, rfl, Nat.zero_le _, hts, Lib.hid (fun p hp => by simp at hp), hb, hI⟩
    case round =>
      obtain ⟨j, e, l, r, rfl, hj, hr, hsm, hst, ho⟩ := hrel
      clear hb hI d1 d2
      obtain ⟨c0, c1, f0, f1⟩ := inpBox ho.out
      by_cases hgo : j < n ∧ e = 0
      · obtain ⟨hlt, rfl⟩ := hgo
        have hfew := hst.out.few
        obtain ⟨n1, k1, e1, hg1⟩ : ∃ n1 k1 e1, gotT r.data.toList 32 = (n1, k1, e1) := ⟨_, _, _, rfl⟩
        have HT1 := Lib.hid (inpText ho.out (by omega) (by omega) hg1)
        have hx1 := Lib.hid (txt_is hg1)
        have hz1 := ext_size r k1 (k1 + n1)
        have hz1' := ext_size r (k1 + n1) r.size
        obtain ⟨a, ha⟩ : ∃ a, r.extract k1 (k1 + n1) = a := ⟨_, rfl⟩
        obtain ⟨r1, hr1⟩ : ∃ r1, r.extract (k1 + n1) r.size = r1 := ⟨_, rfl⟩
        rw [ha] at HT1 hx1 hz1
        rw [hr1] at HT1 hx1 hz1'
        have ha9 : a.size ≤ 9223372036854775807 := by omega
        clear ha hr1 hg1 ho
        by_cases he1 : e1 = 0
        · subst he1
          obtain ⟨n2, k2, e2, hg2⟩ : ∃ n2 k2 e2, gotT r1.data.toList 64 = (n2, k2, e2) := ⟨_, _, _, rfl⟩
          have hx2 := Lib.hid (txt_is hg2)
          have hz2 := ext_size r1 k2 (k2 + n2)
          have hz2' := ext_size r1 (k2 + n2) r1.size
          have HT2 := Lib.hid (fun w2 (h : Own (InP p r1 0 u6 l) w w2) => inpText h (by omega) (by omega : (64 : Int) ≤ 9223372036854775807) hg2)
          obtain ⟨b, hb⟩ : ∃ b, r1.extract k2 (k2 + n2) = b := ⟨_, rfl⟩
          obtain ⟨r2, hr2⟩ : ∃ r2, r1.extract (k2 + n2) r1.size = r2 := ⟨_, rfl⟩
          rw [hb] at HT2 hx2 hz2
          rw [hr2] at HT2 hx2 hz2'
          have hst' := Lib.hid (hst.out.step hlt hx1.out hx2.out)
          have hsm' := Lib.hid (hsm.out.snoc ha9 (by omega : b.size ≤ 9223372036854775807))
          have hr2s : r2.size ≤ 140737488355328 := by omega
          clear hb hr2 hg2 hx1 hx2 hst hsm hz1 hz1' hz2 hz2' ha9
          go_wp2_with fail
          refine HT1.out.mono ?_
          rintro e w4 ⟨rfl, h4⟩
          have HT2' := Lib.hid (HT2.out w4 h4)
          clear HT1 HT2 h4 c0 c1 f0 f1
          go_wp2_with fail
          refine HT2'.out.mono ?_
          rintro e w5 ⟨rfl, h5⟩
          clear HT2'
          have hM := Lib.hid ((Rw.rowSee h5).new ((Upon.refl _ w5).alloc (.cells #[.string a, .string b] 39 (0, 0))))
          have hI := Lib.hid (Own.upon0 (thingInP _ _ _ _ _) h5 ((Upon.refl _ w5).alloc (.cells #[.string a, .string b] 39 (0, 0))))
          clear h5
          go_wp2_with (at_builtin; refine Rw.wpList_append typPr rfl _ _ rfl _ _ l [(a, b)] All rfl rfl hM.out (view_one (cell_new w5 _)) (by rw [List.length_singleton]; omega) (by rw [List.length_singleton]; omega) ?_)
          intro v' w6 hown hgr hbl
          have h6 := Lib.hid (Rw.rowAppend (thingIn _ _ _) hI.out hown hgr (hbl.imp id fun h => h.trans (by simp)))
          clear hM hI hown hgr hbl
          go_wp2_with fail
          go_roundw
          case rel => exact ⟨j + 1, e2, _, r2, by go_num, hlt, hr2s, hsm', hst', h6⟩
          case measure => simp [intOf]; omega
        · have HT2 := Lib.hid (fun w2 (h : Own (InP p r1 e1 u6 l) w w2) => inpTextNo (most := 64) h he1)
          obtain ⟨b, hb⟩ : ∃ b, ByteArray.empty = b := ⟨_, rfl⟩
          have hb0 : b.size ≤ 9223372036854775807 := by rw [← hb]; exact Nat.zero_le _
          rw [hb] at HT2
          have e2 := e1
          have hst' : Hid (St sl n e1 (j + 1) (l ++ [(a, b)]) r1.data.toList) := Lib.hid (hst.out.bad hlt hx1.out he1)
          have hsm' := Lib.hid (hsm.out.snoc ha9 hb0)
          have hr2s : r1.size ≤ 140737488355328 := by omega
          clear hx1 hst hsm hz1 hz1' ha9 hb0 he1
          go_wp2_with fail
          refine HT1.out.mono ?_
          rintro e w4 ⟨rfl, h4⟩
          have HT2' := Lib.hid (HT2.out w4 h4)
          clear HT1 HT2 h4 c0 c1 f0 f1 hb
          go_wp2_with fail
          refine HT2'.out.mono ?_
          rintro e w5 ⟨rfl, h5⟩
          clear HT2'
          have hM := Lib.hid ((Rw.rowSee h5).new ((Upon.refl _ w5).alloc (.cells #[.string a, .string b] 39 (0, 0))))
          have hI := Lib.hid (Own.upon0 (thingInP _ _ _ _ _) h5 ((Upon.refl _ w5).alloc (.cells #[.string a, .string b] 39 (0, 0))))
          clear h5
          go_wp2_with (at_builtin; refine Rw.wpList_append typPr rfl _ _ rfl _ _ l [(a, b)] All rfl rfl hM.out (view_one (cell_new w5 _)) (by rw [List.length_singleton]; omega) (by rw [List.length_singleton]; omega) ?_)
          intro v' w6 hown hgr hbl
          have h6 := Lib.hid (Rw.rowAppend (thingIn _ _ _) hI.out hown hgr (hbl.imp id fun h => h.trans (by simp)))
          clear hM hI hown hgr hbl
          go_wp2_with fail
          go_roundw
          case rel => exact ⟨j + 1, e1, _, r1, by go_num, hlt, hr2s, hsm', hst', h6⟩
          case measure => simp [intOf]; omega
      · obtain ⟨b1, hb1⟩ : ∃ b1, r.toList.isEmpty = b1 := ⟨_, rfl⟩
        obtain ⟨q, hq⟩ : ∃ q, chk l = q := ⟨_, rfl⟩
        have hfin := Lib.hid (hst.out.fin (b1 := b1) (b2 := ((q : Int) == 0)) (by by_cases c : j < n <;> by_cases c2 : e = 0 <;> simp_all) (by rw [← hb1, ByteArray.toList_eq, List.isEmpty_iff]) (by rw [beq_iff_eq, hq]; omega))
        have HM1 := Lib.hid (inpMust ho.out b1 6)
        replace hq := Lib.hid hq
        clear hst ho
        by_cases hlt : j < n
        · have he : e ≠ 0 := fun c => hgo ⟨hlt, c⟩
          have d0 : ((e : Int) == 0) = false := by rw [beq_eq_false_iff_ne]; omega
          clear hgo he
          go_wp2_with fail
          refine HM1.out.mono ?_
          rintro e w4 ⟨rfl, h4⟩
          have HC := Lib.hid (refcheck_any w4 _ u6 l (Rw.rowSee h4).view hsm.out)
          rw [hq.out] at HC
          replace h4 := Lib.hid h4
          clear HM1 c0 c1 f0 f1
          obtain ⟨A, c, hu6_, -, -⟩ := Rw.View.shape (Rw.rowSee h4.out).view
          replace hu6_ := Lib.hid hu6_
          go_wp2_with fail
          refine HC.out.mono ?_
          rintro e w5 ⟨rfl, n5, rfl⟩
          have HM2 := Lib.hid (inpMust (Own.upon0 (thingInP _ _ _ _ _) h4.out (upon_drewN _ w4 n5)) ((q : Int) == 0) 16)
          clear HC h4
          go_wp2_with fail
          refine HM2.out.mono ?_
          rintro e w6 ⟨rfl, h6⟩
          clear HM2
          obtain ⟨f, hf⟩ : ∃ f, mustE ((q : Int) == 0) (mustE b1 e 6) 16 = f := ⟨_, rfl⟩
          rw [hf] at hfin h6
          obtain ⟨c0, c1, f0, f1⟩ := inpBox h6
          replace h6 := Lib.hid h6
          clear hf
          by_cases hf0 : f = 0
          · subst hf0
            have hD : Hid (dec sl = (l, 0)) := Lib.hid (by rw [hfin.out, if_pos rfl])
            have hV : Hid (View w6 All u6 (dec sl).1) := Lib.hid (by rw [hD.out]; exact (Rw.rowSee h6.out).view.all)
            have hE : Hid (Ending.returned (.tuple #[u6, .int .i64 0]) = .returned (.tuple #[u6, .int .i64 ((dec sl).2 : Int)])) := Lib.hid (by rw [hD.out]; rfl)
            have hN := Lib.hid (newOf h6.out.bel)
            clear hfin h6 hD
            go_wp2_with fail
            go_ret2
            exact ⟨u6, hE.out, hV.out, hN.out⟩
          · have d3 : ((f : Int) != 0) = true := by rw [bne_iff_ne]; omega
            have hD : Hid (dec sl = ([], f)) := Lib.hid (by rw [hfin.out, if_neg hf0])
            have hE : Hid (Ending.returned (.tuple #[.slice none 0 0, .int .i64 (f : Int)]) = .returned (.tuple #[.slice none 0 0, .int .i64 ((dec sl).2 : Int)])) := Lib.hid (by rw [hD.out])
            have hV : Hid (∀ w', View w' All (.slice none 0 0) (dec sl).1) := Lib.hid (fun w' => by rw [hD.out]; exact Rw.View.noth _ _ _)
            have hN := Lib.hid (fun n => (newOf h6.out.bel).trans (upon_drewN _ w6 n))
            clear hfin h6 hD hf0
            go_wp2_with fail
            go_quiet (fail)
            go_wp2_with fail
            go_ret2
            exact ⟨_, hE.out, hV.out _, hN.out _⟩

        · clear hgo
          go_wp2_with fail
          refine HM1.out.mono ?_
          rintro e w4 ⟨rfl, h4⟩
          have HC := Lib.hid (refcheck_any w4 _ u6 l (Rw.rowSee h4).view hsm.out)
          rw [hq.out] at HC
          replace h4 := Lib.hid h4
          clear HM1 c0 c1 f0 f1
          obtain ⟨A, c, hu6_, -, -⟩ := Rw.View.shape (Rw.rowSee h4.out).view
          replace hu6_ := Lib.hid hu6_
          go_wp2_with fail
          refine HC.out.mono ?_
          rintro e w5 ⟨rfl, n5, rfl⟩
          have HM2 := Lib.hid (inpMust (Own.upon0 (thingInP _ _ _ _ _) h4.out (upon_drewN _ w4 n5)) ((q : Int) == 0) 16)
          clear HC h4
          go_wp2_with fail
          refine HM2.out.mono ?_
          rintro e w6 ⟨rfl, h6⟩
          clear HM2
          obtain ⟨f, hf⟩ : ∃ f, mustE ((q : Int) == 0) (mustE b1 e 6) 16 = f := ⟨_, rfl⟩
          rw [hf] at hfin h6
          obtain ⟨c0, c1, f0, f1⟩ := inpBox h6
          replace h6 := Lib.hid h6
          clear hf
          by_cases hf0 : f = 0
          · subst hf0
            have hD : Hid (dec sl = (l, 0)) := Lib.hid (by rw [hfin.out, if_pos rfl])
            have hV : Hid (View w6 All u6 (dec sl).1) := Lib.hid (by rw [hD.out]; exact (Rw.rowSee h6.out).view.all)
            have hE : Hid (Ending.returned (.tuple #[u6, .int .i64 0]) = .returned (.tuple #[u6, .int .i64 ((dec sl).2 : Int)])) := Lib.hid (by rw [hD.out]; rfl)
            have hN := Lib.hid (newOf h6.out.bel)
            clear hfin h6 hD
            go_wp2_with fail
            go_ret2
            exact ⟨u6, hE.out, hV.out, hN.out⟩
          · have d3 : ((f : Int) != 0) = true := by rw [bne_iff_ne]; omega
            have hD : Hid (dec sl = ([], f)) := Lib.hid (by rw [hfin.out, if_neg hf0])
            have hE : Hid (Ending.returned (.tuple #[.slice none 0 0, .int .i64 (f : Int)]) = .returned (.tuple #[.slice none 0 0, .int .i64 ((dec sl).2 : Int)])) := Lib.hid (by rw [hD.out])
            have hV : Hid (∀ w', View w' All (.slice none 0 0) (dec sl).1) := Lib.hid (fun w' => by rw [hD.out]; exact Rw.View.noth _ _ _)
            have hN := Lib.hid (fun n => (newOf h6.out.bel).trans (upon_drewN _ w6 n))
            clear hfin h6 hD hf0
            go_wp2_with fail
            go_quiet (fail)
            go_wp2_with fail
            go_ret2
            exact ⟨_, hE.out, hV.out _, hN.out _⟩

end Lb
end Go.Proofs.Ytoamgmbpainpjaa
