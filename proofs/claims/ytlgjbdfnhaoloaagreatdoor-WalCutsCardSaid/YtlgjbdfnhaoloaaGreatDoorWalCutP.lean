/- The log (layer 5), plainly: what CutAfter does to a log that is synced. -/
import Derived.Test.YtlgjbdfnhaoloaaGreatDoorPWal4
import Derived.Test.YtlgjbdfnhaoloaaGreatDoorWalRepl
set_option linter.unusedSimpArgs false
set_option linter.unusedVariables false
namespace Go.Proofs.YtlgjbdfnhaoloaaGreatDoor
namespace Wal
open Dig Frm Dsk

theorem split_at_first : ∀ {X : List Sg} (a : Nat), X.Pairwise (fun a b => a.first < b.first) → ∃ k, k ≤ X.length ∧ (∀ x ∈ X.take k, x.first ≤ a) ∧ ∀ x ∈ X.drop k, a < x.first
  | [], a, _ => ⟨0, Nat.le_refl _, by simp, by simp⟩
  | y :: r, a, h => by
    rw [List.pairwise_cons] at h
    by_cases hy : y.first ≤ a
    · obtain ⟨k, k1, k2, k3⟩ := split_at_first a h.2
      refine ⟨k + 1, by simp; omega, fun x hx => ?_, fun x hx => k3 x (by simpa using hx)⟩
      rw [List.take_succ_cons] at hx
      rcases List.mem_cons.1 hx with rfl | hx
      · exact hy
      · exact k2 x hx
    · refine ⟨0, Nat.zero_le _, by simp, fun x hx => ?_⟩
      rw [List.drop_zero] at hx
      rcases List.mem_cons.1 hx with rfl | hx
      · omega
      · have := h.1 x hx; omega
theorem keep_filter (goes : Nat → Bool) (P : Seg → Bool) : ∀ (l : List Seg) (j : Nat), (∀ i x, l[i]? = some x → goes (j + i) = P x) → keepJ goes j l = l.filter (fun x => !P x) ∧ goneJ goes j l = (l.filter P).map Seg.name
  | [], j, _ => ⟨rfl, rfl⟩
  | x :: r, j, h => by
    have h0 := h 0 x rfl
    obtain ⟨i1, i2⟩ := keep_filter goes P r (j + 1) fun i y hi => by
      have := h (i + 1) y (by simpa using hi)
      rw [show j + 1 + i = j + (i + 1) by omega]; exact this
    rw [Nat.add_zero] at h0
    unfold keepJ goneJ
    rw [i1, i2, h0]
    cases hP : P x <;> simp [hP]

theorem del_ins {k : Str} {i : Nat} : ∀ {M : Nms}, (∀ p ∈ M, p.1 ≠ k) → delN (insN (k, i) M) k = M
  | [], _ => by simp [insN, delN]
  | y :: r, h => by
    have hy := h y (by simp)
    have hr : delN (y :: r) k = y :: r := by
      unfold delN; rw [List.filter_eq_self]; intro p hp; simpa using h p hp
    unfold insN
    split
    · unfold delN at hr ⊢
      rw [List.filter_cons, if_neg (by simp)]; exact hr
    · have ih := del_ins (i := i) (M := r) fun p hp => h p (by simp [hp])
      unfold delN at ih ⊢
      rw [List.filter_cons, if_pos (by simpa using hy), ih]
theorem del_put (N : Nms) (k : Str) (i : Nat) : delN (putN N k i) k = delN N k := by
  unfold putN
  exact del_ins fun p hp => (mem_delN.1 hp).2

/-- A disk that has these segments, its names in any state; with power. -/
structure Cutting (st : St) (X : List Sg) : Prop where
  hold : Hold st 1 X
  up : Up st
  now : st.N = st.C.foldl appC st.L
theorem names_in {X : List Sg} {k : Nat} (hr : X.Pairwise fun a b => a.first < b.first) (ht : ∀ x ∈ X, x.first ≤ 99999999) : ((((X.drop k).map Sg.seg).map Seg.name).foldl delN (X.map Sg.nm)) = (X.take k).map Sg.nm := by
  rw [foldl_del]
  conv => lhs; rw [← List.take_append_drop k X]
  rw [List.map_append, List.filter_append]
  have hp := hr
  rw [← List.take_append_drop k X, List.pairwise_append] at hp
  have e1 : ((X.take k).map Sg.nm).filter (fun p => !(((X.take k ++ X.drop k).drop k).map Sg.seg |>.map Seg.name).contains p.1) = (X.take k).map Sg.nm := by
    rw [List.filter_eq_self]
    intro p hpm
    obtain ⟨x, hx, rfl⟩ := List.mem_map.1 hpm
    rw [List.take_append_drop]
    have : ¬ (x.nm.1 ∈ ((X.drop k).map Sg.seg).map Seg.name) := by
      intro hm
      rw [List.map_map] at hm
      obtain ⟨z, hz, hzn⟩ := List.mem_map.1 hm
      have e := name_inj (ht z (List.mem_of_mem_drop hz)) (ht x (List.mem_of_mem_take hx)) hzn
      have := hp.2.2 x hx z hz
      omega
    rw [Bool.not_eq_true', ← Bool.not_eq_true, List.contains_iff_mem]
    exact this
  have e2 : ((X.drop k).map Sg.nm).filter (fun p => !(((X.take k ++ X.drop k).drop k).map Sg.seg |>.map Seg.name).contains p.1) = [] := by
    rw [List.filter_eq_nil_iff]
    intro p hpm
    obtain ⟨x, hx, rfl⟩ := List.mem_map.1 hpm
    rw [List.take_append_drop]
    have : (((X.drop k).map Sg.seg).map Seg.name).contains x.nm.1 = true := by
      rw [List.contains_iff_mem, List.map_map]
      exact List.mem_map.2 ⟨x, hx, rfl⟩
    rw [this]; decide
  rw [e1, e2, List.append_nil]
theorem Hold.prefix {st st' : St} {f : Nat} {X : List Sg} (h : Hold st f X) (k : Nat) (hN : st'.N = (X.take k).map Sg.nm) (hF : st'.F = st.F) : Hold st' f (X.take k) := by
  have hm : ∀ x ∈ X.take k, x ∈ X := fun x hx => List.mem_of_mem_take hx
  have hrl := recsOf_take_le X k
  have := h.top
  exact ⟨hN, fun x hx => by rw [hF]; exact h.file x (hm x hx), ((List.take_sublist k X).map Sg.file).nodup h.fresh, chain_take h.chain k, h.pos, by omega, fun r hr => h.small r (hrl.2 r hr), fun x hx => h.sure x (hm x hx)⟩

/-- Those whose first number is above a go, the last one first. -/
theorem cut_takes {st : St} {lg : Lg} {X : List Sg} (h : Cutting st X) (hs : lg.segs = X.map Sg.seg) (a k : Nat) (k1 : k ≤ X.length) (k2 : ∀ x ∈ X.take k, x.first ≤ a) (k3 : ∀ x ∈ X.drop k, a < x.first) :
    ∃ st', cutT lg st a = (((X.take k).map Sg.seg).reverse, st', 0) ∧ Cutting st' (X.take k) ∧ st'.F = st.F ∧ st'.room = st.room ∧ st'.C.length ≤ st.C.length + X.length := by
  have hrise := h.hold.rise
  have hle := h.hold.le
  obtain ⟨st1, t1, t2⟩ := takeL_up (fun j => decide (a < (lg.segs.reverse.getD j default).first)) lg.segs.reverse 0 st h.up (by rw [h.hold.N]; exact rising_of hrise hle) (fun s hm => by
    rw [List.mem_reverse, hs] at hm
    obtain ⟨x, hx, rfl⟩ := List.mem_map.1 hm
    show (lookN st.N (nameL x.first)).isSome
    rw [h.hold.look hx]; rfl) (by
      rw [List.map_reverse, hs]
      unfold List.Nodup
      rw [List.pairwise_reverse]
      exact (names_nodup hrise hle).imp fun hh => hh.symm)
  obtain ⟨g1, g2⟩ := keep_filter (fun j => decide (a < (lg.segs.reverse.getD j default).first)) (fun s => decide (a < s.first)) lg.segs.reverse 0 (fun i x hi => by
    simp only [Nat.zero_add]
    rw [List.getD_eq_getElem?_getD, hi]; rfl)
  have hf1 : (X.map Sg.seg).filter (fun s => !decide (a < s.first)) = (X.take k).map Sg.seg := by
    conv => lhs; rw [← List.take_append_drop k X]
    rw [List.map_append, List.filter_append]
    have e1 : ((X.take k).map Sg.seg).filter (fun s => !decide (a < s.first)) = (X.take k).map Sg.seg := by
      rw [List.filter_eq_self]; intro s hm; obtain ⟨x, hx, rfl⟩ := List.mem_map.1 hm; have := k2 x hx; show (!decide (a < x.first)) = true; rw [decide_eq_false (by omega)]; rfl
    have e2 : ((X.drop k).map Sg.seg).filter (fun s => !decide (a < s.first)) = [] := by
      rw [List.filter_eq_nil_iff]; intro s hm; obtain ⟨x, hx, rfl⟩ := List.mem_map.1 hm; have := k3 x hx; show ¬ (!decide (a < x.first)) = true; rw [decide_eq_true (by omega)]; decide
    rw [e1, e2, List.append_nil]
  have hf2 : (X.map Sg.seg).filter (fun s => decide (a < s.first)) = (X.drop k).map Sg.seg := by
    conv => lhs; rw [← List.take_append_drop k X]
    rw [List.map_append, List.filter_append]
    have e1 : ((X.take k).map Sg.seg).filter (fun s => decide (a < s.first)) = [] := by
      rw [List.filter_eq_nil_iff]; intro s hm; obtain ⟨x, hx, rfl⟩ := List.mem_map.1 hm; have := k2 x hx; show ¬ decide (a < x.first) = true; rw [decide_eq_false (by omega)]; decide
    have e2 : ((X.drop k).map Sg.seg).filter (fun s => decide (a < s.first)) = (X.drop k).map Sg.seg := by
      rw [List.filter_eq_self]; intro s hm; obtain ⟨x, hx, rfl⟩ := List.mem_map.1 hm; have := k3 x hx; show decide (a < x.first) = true; exact decide_eq_true (by omega)
    rw [e1, e2, List.nil_append]
  rw [hs, List.filter_reverse, hf1] at g1
  rw [hs, List.filter_reverse, hf2, List.map_reverse] at g2
  have hN : st1.N = (X.take k).map Sg.nm := by
    rw [t2.N]
    have e := g2
    rw [← hs] at e
    rw [e, h.hold.N, foldl_del]
    rw [← names_in hrise hle (k := k), foldl_del]
    congr 1
    funext p
    simp
  refine ⟨st1, ?_, ⟨h.hold.prefix k hN t2.F, t2.up, t2.now h.now⟩, t2.F, t2.room, ?_⟩
  · unfold cutT
    rw [t1, hs, g1]
  · rw [t2.C, List.length_append, List.length_map]
    have e := g2
    rw [← hs] at e
    rw [e, List.length_reverse, List.length_map, List.length_map, List.length_drop]; omega

theorem frs_take (l : List ByteArray) (j : Nat) : (frs l).take (frs (l.take j)).length = frs (l.take j) := by
  conv => lhs; arg 2; rw [← List.take_append_drop j l, frs_append]
  exact List.take_left
theorem look_spare {X : List Sg} : lookN (X.map Sg.nm) spareL = none := by
  refine look_none_of fun p hp => ?_
  obtain ⟨x, hx, rfl⟩ := List.mem_map.1 hp
  exact nameL_ne_t _
/-- A file takes another one's place. -/
theorem replaced {st : St} {Y0 : List Sg} {x : Sg} (h : Cutting st (Y0 ++ [x])) (b : Str) (hr : (((frs (recsOf (Y0 ++ [x]))).length + b.length : Nat) : Int) ≤ st.room) (hY : (Y0 ++ [x]).length < 64) :
    replaceL st (nameL x.first) b = ({ st with F := st.F ++ [⟨b, b.length⟩], N := Y0.map Sg.nm ++ [(nameL x.first, st.F.length)], C := st.C ++ [Chg.put spareL st.F.length] ++ [Chg.move spareL (nameL x.first) st.F.length] }, 0) ∧
      (Y0.map Sg.nm ++ [(nameL x.first, st.F.length)]) = (st.C ++ [Chg.put spareL st.F.length] ++ [Chg.move spareL (nameL x.first) st.F.length]).foldl appC st.L := by
  have hu := h.up
  have hRN : Rising st.N := by rw [h.hold.N]; exact rising_of h.hold.rise h.hold.le
  have hls : lookN st.N spareL = none := by rw [h.hold.N]; exact look_spare
  have hfull : full (wrS st) spareL b = false := by
    unfold full
    rw [hu.wrS, h.hold.used, hls]
    have h4 : st.N.length = (Y0 ++ [x]).length := by rw [h.hold.N, List.length_map]
    rw [h4]
    have e1 : ¬ (st.room < (((frs (recsOf (Y0 ++ [x]))).length + b.length : Nat) : Int)) := by omega
    have e2 : ¬ (Y0 ++ [x]).length = 64 := by omega
    rw [decide_eq_false e1, decide_eq_false e2]; rfl
  have hsn : isName spareL = true := by decide
  have hkn : isName (nameL x.first) = true := name_is_name _ (h.hold.le x (by simp))
  -- appended
  have a1 : appE st spareL b = 0 := by unfold appE; rw [hu.wrB, hsn, hfull]; rfl
  have a2 : appS st spareL b = { st with F := st.F ++ [⟨b, 0⟩], N := putN st.N spareL st.F.length, C := st.C ++ [Chg.put spareL st.F.length] } := by
    unfold appS
    rw [hu.wrB, hsn, hfull, hu.wrS]
    show addF st spareL b = _
    unfold addF
    rw [hls]
  have hlp : lookN (putN st.N spareL st.F.length) spareL = some st.F.length := look_put_same hRN _ _
  have hu1 : Up { st with F := st.F ++ [⟨b, 0⟩], N := putN st.N spareL st.F.length, C := st.C ++ [Chg.put spareL st.F.length] } := hu
  have b1 : syncE { st with F := st.F ++ [⟨b, 0⟩], N := putN st.N spareL st.F.length, C := st.C ++ [Chg.put spareL st.F.length] } spareL = 0 := by
    unfold syncE; rw [hu1.wrB]; show (if (!true) = true then (11 : Int) else if (lookN (putN st.N spareL st.F.length) spareL).isNone = true then 12 else 0) = 0; rw [hlp]; rfl
  have b2 : syncS { st with F := st.F ++ [⟨b, 0⟩], N := putN st.N spareL st.F.length, C := st.C ++ [Chg.put spareL st.F.length] } spareL = { st with F := st.F ++ [⟨b, b.length⟩], N := putN st.N spareL st.F.length, C := st.C ++ [Chg.put spareL st.F.length] } := by
    unfold syncS
    rw [hu1.wrB, hu1.wrS, if_pos rfl]
    unfold syncF
    simp only [hlp]
    have : (st.F ++ [(⟨b, 0⟩ : FileS)]).modify st.F.length (fun f => { f with lasts := f.s.length }) = st.F ++ [⟨b, b.length⟩] := by
      apply List.ext_getElem?
      intro i
      rw [List.getElem?_modify]
      rcases Nat.lt_trichotomy i st.F.length with hi | hi | hi
      · rw [List.getElem?_append_left hi, List.getElem?_append_left hi]
        simp [show st.F.length ≠ i by omega]
      · subst hi; simp
      · rw [List.getElem?_eq_none (by simp; omega), List.getElem?_eq_none (by simp; omega)]; rfl
    rw [this]
  have hu2 : Up { st with F := st.F ++ [⟨b, b.length⟩], N := putN st.N spareL st.F.length, C := st.C ++ [Chg.put spareL st.F.length] } := hu
  have hmv : putN (delN (putN st.N spareL st.F.length) spareL) (nameL x.first) st.F.length = Y0.map Sg.nm ++ [(nameL x.first, st.F.length)] := by
    rw [del_put, del_none hls, h.hold.N, List.map_append, List.map_singleton]
    have hnot : ∀ y ∈ Y0, y.first < x.first := fun y hy => by
      have hp := h.hold.rise
      rw [List.pairwise_append] at hp
      exact hp.2.2 y hy x (by simp)
    have hd : delN (Y0.map Sg.nm ++ [x.nm]) (nameL x.first) = Y0.map Sg.nm := by
      unfold delN
      rw [List.filter_append]
      have e1 : (Y0.map Sg.nm).filter (fun p => !(p.1 == nameL x.first)) = Y0.map Sg.nm := by
        rw [List.filter_eq_self]
        intro p hp
        obtain ⟨y, hy, rfl⟩ := List.mem_map.1 hp
        have hne : y.nm.1 ≠ nameL x.first := fun e => by
          have := name_inj (h.hold.le y (by simp [hy])) (h.hold.le x (by simp)) e
          have := hnot y hy; omega
        simpa using hne
      rw [e1]
      simp [Sg.nm]
    unfold putN
    rw [hd]
    exact ins_end _ _ fun q hq => by
      obtain ⟨y, hy, rfl⟩ := List.mem_map.1 hq
      exact name_before (h.hold.le x (by simp)) (hnot y hy)
  have c1 : renE { st with F := st.F ++ [⟨b, b.length⟩], N := putN st.N spareL st.F.length, C := st.C ++ [Chg.put spareL st.F.length] } spareL (nameL x.first) = 0 := by
    unfold renE; rw [hu2.wrB, hkn]; show (if (!true) = true then (11 : Int) else if (lookN (putN st.N spareL st.F.length) spareL).isNone = true then 12 else if (!true) = true then 3 else 0) = 0; rw [hlp]; rfl
  have c2 : renS { st with F := st.F ++ [⟨b, b.length⟩], N := putN st.N spareL st.F.length, C := st.C ++ [Chg.put spareL st.F.length] } spareL (nameL x.first) = { st with F := st.F ++ [⟨b, b.length⟩], N := Y0.map Sg.nm ++ [(nameL x.first, st.F.length)], C := st.C ++ [Chg.put spareL st.F.length] ++ [Chg.move spareL (nameL x.first) st.F.length] } := by
    unfold renS
    rw [hu2.wrB, hkn, hu2.wrS]
    simp only [hlp, Option.isSome_some, Bool.and_self, if_true, Option.getD_some]
    unfold chg
    simp only [appC]
    rw [hmv]
  have hre : readE st spareL ≠ 0 := by unfold readE; rw [if_neg (by simp [hu.1]), hls]; decide
  constructor
  · rw [replaceL_eq, if_neg hre]
    unfold tailR
    rw [a1, a2, b1, b2, c1, c2]
    rfl
  · rw [List.foldl_append, List.foldl_append, ← h.now]
    exact hmv.symm

theorem sum_take_le' (l : List ByteArray) (j : Nat) : (frs (l.take j)).length ≤ (frs l).length := by
  rw [frs_len, frs_len, List.map_take]; exact sum_take_le _ _
/-- The names last. -/
theorem Cutting.done {st : St} {Z : List Sg} (h : Cutting st Z) (hm : ∀ z ∈ Z, z.marked = false ∧ z.sure = (frs z.recs).length) (lg : Lg) (hs : lg.segs = Z.map Sg.seg) (hh : lg.hand = false) (a : Nat) (ha : (recsOf Z).length = a) :
    endL lg st a = ⟨{ lg with nm := false, last := a, dur := a }, { st with L := st.N, C := [] }, 0⟩ ∧ Logs { st with L := st.N, C := [] } { lg with nm := false, last := a, dur := a } 1 Z Z.length ∧ Up { st with L := st.N, C := [] } := by
  obtain ⟨s1, s2⟩ := settle_up h.up h.now
  refine ⟨?_, ⟨h.hold.congr rfl rfl, hs, by show a + 1 = _; omega, fun e => (by rw [show ({ lg with nm := false, last := a, dur := a } : Lg).hand = lg.hand from rfl, hh] at e; cases e), Nat.le_refl _, by rw [List.take_length]; exact h.hold.N, by rw [List.drop_length]; rfl, fun _ => rfl, fun z hz _ => (hm z hz).2, Nat.le_refl _, fun i z hz _ => ⟨(List.getElem?_eq_some_iff.1 hz).1, ?_⟩⟩, h.up⟩
  · unfold endL
    rw [s1, s2, if_neg (by simp)]
  · rw [(hm z (List.mem_of_getElem? hz)).2]; exact sum_take_le' _ _

/-- What CutAfter leaves of a log that is synced. -/
structure CutOut (st : St) (lg : Lg) (X : List Sg) (a : Nat) (Z : List Sg) (d : Done) : Prop where
  err : d.err = 0
  logs : Logs d.st d.lg 1 Z Z.length
  marks : ∀ z ∈ Z, z.marked = false
  up : Up d.st
  recs : recsOf Z = (recsOf X).take a
  last : d.lg.last = a
  hand : d.lg.hand = false
  room : d.st.room = st.room
  len : Z.length ≤ X.length
  C : d.st.C = []
  F : ∀ M, (∀ f ∈ st.F, f.s.length ≤ M) → (frs (recsOf X)).length ≤ M → ∀ f ∈ d.st.F, f.s.length ≤ M
theorem Logs.cut {st : St} {lg : Lg} {p : Nat} {X : List Sg} (h : Logs st lg 1 X p) (hp : p = X.length) (hm : ∀ x ∈ X, x.marked = false) (hu : Up st) (hnow : st.N = st.C.foldl appC st.L) (a : Nat) (ha : a ≤ lg.last) (hr : (((frs (recsOf X)).length + (frs (recsOf X)).length : Nat) : Int) ≤ st.room) (hX : X.length < 64) :
    ∃ Z, CutOut st lg X a Z (cutL lg st (a : Int)) := by
  have hla := h.last
  have hfirst : lg.first = 1 := by
    unfold Lg.first
    rw [h.segs]
    have hc := h.hold.chain
    cases hX0 : X with
    | nil => rw [hX0] at hla; simp only [List.map_nil]; simp [recsOf] at hla; omega
    | cons x r => rw [hX0] at hc; exact hc.1
  have hC0 : st.C = [] := by rw [h.C, hp, List.drop_length]; rfl
  by_cases hal : a = lg.last
  · have e : cutL lg st (a : Int) = ⟨{ lg with hand := false }, st, 0⟩ := by
      unfold cutL; rw [if_neg (by rw [hfirst]; omega), if_pos (by omega)]
    rw [e]
    exact ⟨X, ⟨rfl, by rw [← hp]; exact { h with hand := fun e => by cases e }, hm, hu, by rw [List.take_of_length_le (by omega)], hal.symm, rfl, rfl, Nat.le_refl _, hC0, fun M hM _ => hM⟩⟩
  · obtain ⟨k, k1, k2, k3⟩ := split_at_first a h.hold.rise
    obtain ⟨st1, t1, t2, t3, t4, t5⟩ := cut_takes ⟨h.hold, hu, hnow⟩ h.segs a k k1 k2 k3
    have hsplit : recsOf X = recsOf (X.take k) ++ recsOf (X.drop k) := by rw [← recsOf_append, List.take_append_drop]
    have htot : a ≤ (recsOf (X.take k)).length := by
      rcases Nat.lt_or_ge k X.length with hk | hk
      · have hc := h.hold.chain
        rw [← List.take_append_drop k X, chain_append, List.drop_eq_getElem_cons hk] at hc
        have h1 := hc.2.1
        have h2 := k3 X[k] (List.mem_iff_getElem?.2 ⟨0, by rw [List.getElem?_drop, Nat.add_zero]; exact List.getElem?_eq_getElem hk⟩)
        omega
      · rw [List.take_of_length_le hk]; omega
    have htake : (recsOf X).take a = (recsOf (X.take k)).take a := by rw [hsplit, List.take_append_of_le_length htot]
    have hres : cutL lg st (a : Int) = if (shortenL ((X.take k).map Sg.seg) st1 a).err ≠ 0 then ⟨{ lg with hand := false, segs := (shortenL ((X.take k).map Sg.seg) st1 a).segs }, (shortenL ((X.take k).map Sg.seg) st1 a).st, (shortenL ((X.take k).map Sg.seg) st1 a).err⟩
        else endL { lg with hand := false, segs := (shortenL ((X.take k).map Sg.seg) st1 a).segs } (shortenL ((X.take k).map Sg.seg) st1 a).st a := by
      unfold cutL
      rw [if_neg (by rw [hfirst]; omega), if_neg (by omega)]
      simp only [Int.toNat_natCast, t1]
      rw [if_neg (by simp), List.reverse_reverse]
    have hmk : ∀ x ∈ X.take k, x.marked = false ∧ x.sure = (frs x.recs).length := fun x hx => ⟨hm x (List.mem_of_mem_take hx), h.marks x (List.mem_of_mem_take hx) (hm x (List.mem_of_mem_take hx))⟩
    -- nothing is cut off the last one
    have hsame : (shortenL ((X.take k).map Sg.seg) st1 a) = ⟨(X.take k).map Sg.seg, st1, 0⟩ → (recsOf (X.take k)).length = a → ∃ Z, CutOut st lg X a Z (cutL lg st (a : Int)) := by
      intro e ea
      rw [e] at hres
      simp only at hres
      rw [if_neg (by simp)] at hres
      obtain ⟨d1, d2, d3⟩ := t2.done hmk { lg with hand := false, segs := (X.take k).map Sg.seg } rfl rfl a ea
      rw [hres, d1]
      exact ⟨X.take k, ⟨rfl, d2, fun z hz => (hmk z hz).1, d3, by rw [htake, List.take_of_length_le (l := recsOf (X.take k)) (by omega)], rfl, rfl, t4, by rw [List.length_take]; omega, rfl, fun M hM _ => by show ∀ f ∈ st1.F, _; rw [t3]; exact hM⟩⟩
    generalize hY : X.take k = Y at *
    by_cases hYn : Y = []
    · subst hYn
      exact hsame rfl (by have e : (recsOf ([] : List Sg)).length = 0 := rfl; omega)
    · obtain ⟨Y0, x, rfl⟩ : ∃ Y0 x, Y = Y0 ++ [x] := ⟨Y.dropLast, Y.getLast hYn, (List.dropLast_concat_getLast hYn).symm⟩
      have hc := t2.hold.chain
      rw [chain_append] at hc
      have hxf : x.first = 1 + (recsOf Y0).length := hc.2.1
      have hxr : (recsOf (Y0 ++ [x])).length = (recsOf Y0).length + x.recs.length := by rw [recsOf_append, List.length_append, recsOf_cons, recsOf_nil, List.append_nil]
      have hxp : 0 < x.recs.length := List.length_pos_iff.2 hc.2.2.1
      have hxa := k2 x (by simp)
      have hsl : ((Y0 ++ [x]).map Sg.seg).getLast? = some x.seg := by rw [List.getLast?_map, List.getLast?_concat]; rfl
      by_cases hle : x.seg.last ≤ a
      · refine hsame ?_ ?_
        · unfold shortenL; rw [hsl]; simp only; rw [if_pos hle]
        · rw [seg_last] at hle; omega
      · have hle' : a < (recsOf (Y0 ++ [x])).length := by rw [seg_last] at hle; omega
        obtain ⟨j, hj⟩ : ∃ j, j = a - x.first + 1 := ⟨_, rfl⟩
        have hjl : j < x.recs.length := by omega
        have hrd : readE st1 (nameL x.first) = 0 := (t2.hold.reads t2.up.1 x (by simp)).1
        have hra : readA st1 (nameL x.first) = frs x.recs := by
          unfold readA
          rw [if_neg (by simp [t2.up.1]), t2.hold.look (by simp : x ∈ Y0 ++ [x])]
          simp only [List.getD_eq_getElem?_getD, t2.hold.file x (by simp), Option.getD_some]
        have hsum : ((x.recs.map lenF).take j).sum = (frs (x.recs.take j)).length := take_sum _ _
        have hfl : (frs (x.recs.take j)).length ≤ (frs (recsOf X)).length := by
          have q1 := sum_take_le' x.recs j
          have q2 : (frs x.recs).length ≤ (frs (recsOf X)).length := by
            rw [hsplit, frs_append, List.length_append, recsOf_append, frs_append, List.length_append, recsOf_cons, recsOf_nil, List.append_nil]; omega
          omega
        have hfy : (frs (recsOf (Y0 ++ [x]))).length ≤ (frs (recsOf X)).length := by rw [hsplit, frs_append, List.length_append]; omega
        have hylen : (Y0 ++ [x]).length ≤ X.length := by rw [← hY, List.length_take]; omega
        obtain ⟨r1, r2⟩ := replaced t2 (frs (x.recs.take j)) (by rw [t4]; omega) (by omega)
        have hsh : shortenL ((Y0 ++ [x]).map Sg.seg) st1 a = ⟨((Y0 ++ [x]).map Sg.seg).dropLast ++ [{ x.seg with lens := (x.recs.map lenF).take j }], { st1 with F := st1.F ++ [⟨frs (x.recs.take j), (frs (x.recs.take j)).length⟩], N := Y0.map Sg.nm ++ [(nameL x.first, st1.F.length)], C := st1.C ++ [Chg.put spareL st1.F.length] ++ [Chg.move spareL (nameL x.first) st1.F.length] }, 0⟩ := by
          unfold shortenL
          rw [hsl]
          simp only
          rw [if_neg hle, seg_name, hrd, if_neg (by simp), seg_first, ← hj, hra]
          have hrp := (show replaceL st1 (nameL x.first) ((frs x.recs).take (x.seg.lens.take j).sum) = replaceL st1 (nameL x.first) (frs (x.recs.take j)) from by
            show replaceL st1 (nameL x.first) ((frs x.recs).take ((x.recs.map lenF).take j).sum) = _
            rw [hsum, frs_take]).trans r1
          rw [hrp, if_neg (by simp)]
          rfl
        obtain ⟨z, hz⟩ : ∃ z : Sg, z = ⟨x.first, x.recs.take j, st1.F.length, (frs (x.recs.take j)).length, false⟩ := ⟨_, rfl⟩
        have hzr : recsOf (Y0 ++ [z]) = (recsOf (Y0 ++ [x])).take a := by
          rw [recsOf_append, recsOf_append, recsOf_cons, recsOf_cons, recsOf_nil, List.append_nil, List.append_nil, List.take_append, List.take_of_length_le (l := recsOf Y0) (by omega), hz]
          show _ ++ x.recs.take j = _
          congr 2; omega
        have hrl : (recsOf (Y0 ++ [z])).length = a := by rw [hzr, List.length_take]; omega
        have hcut : Cutting { st1 with F := st1.F ++ [⟨frs (x.recs.take j), (frs (x.recs.take j)).length⟩], N := Y0.map Sg.nm ++ [(nameL x.first, st1.F.length)], C := st1.C ++ [Chg.put spareL st1.F.length] ++ [Chg.move spareL (nameL x.first) st1.F.length] } (Y0 ++ [z]) := by
          refine ⟨⟨?_, ?_, ?_, ?_, Nat.le_refl _, ?_, ?_, ?_⟩, t2.up, r2⟩
          · rw [List.map_append, List.map_singleton, hz]; rfl
          · intro y hy
            show (st1.F ++ [_])[y.file]? = _
            rcases List.mem_append.1 hy with hy | hy
            · rw [List.getElem?_append_left (t2.hold.lt y (by simp [hy]))]
              exact t2.hold.file y (by simp [hy])
            · simp at hy; subst hy; rw [hz]; simp
          · rw [List.map_append, List.map_singleton, List.nodup_append]
            have hfr := t2.hold.fresh
            rw [List.map_append, List.nodup_append] at hfr
            refine ⟨hfr.1, by simp, fun u hu v hv => ?_⟩
            obtain ⟨y, hy, rfl⟩ := List.mem_map.1 hu
            simp at hv; subst hv
            have := t2.hold.lt y (by simp [hy])
            rw [hz]; show y.file ≠ st1.F.length; omega
          · rw [chain_append]
            refine ⟨hc.1, ?_, ?_, trivial⟩
            · rw [hz]; exact hxf
            · rw [hz]; show x.recs.take j ≠ []; intro e; have := congrArg List.length e; rw [List.length_take, List.length_nil] at this; omega
          · rw [hrl]; have := h.hold.top; omega
          · intro r hr'
            rw [hzr] at hr'
            exact t2.hold.small r (List.mem_of_mem_take hr')
          · intro y hy
            rcases List.mem_append.1 hy with hy | hy
            · exact t2.hold.sure y (by simp [hy])
            · simp at hy; subst hy; rw [hz]; exact Nat.le_refl _
        rw [hsh] at hres
        simp only at hres
        rw [if_neg (by simp)] at hres
        have hsg : ((Y0 ++ [x]).map Sg.seg).dropLast ++ [{ x.seg with lens := (x.recs.map lenF).take j }] = (Y0 ++ [z]).map Sg.seg := by
          rw [List.map_append, List.map_singleton, List.dropLast_concat, List.map_append, List.map_singleton, hz]
          have hmx : x.marked = false := (hmk x (by simp)).1
          simp [Sg.seg, hmx, List.map_take]
        have hmz : ∀ y ∈ Y0 ++ [z], y.marked = false ∧ y.sure = (frs y.recs).length := by
          intro y hy
          rcases List.mem_append.1 hy with hy | hy
          · exact hmk y (by simp [hy])
          · simp at hy; subst hy; rw [hz]; exact ⟨rfl, rfl⟩
        obtain ⟨d1, d2, d3⟩ := hcut.done hmz { lg with hand := false, segs := ((Y0 ++ [x]).map Sg.seg).dropLast ++ [{ x.seg with lens := (x.recs.map lenF).take j }] } hsg rfl a hrl
        rw [hres, d1]
        refine ⟨Y0 ++ [z], ⟨rfl, d2, fun y hy => (hmz y hy).1, d3, by rw [htake, hzr], rfl, rfl, t4, by rw [List.length_append, List.length_singleton] at hylen ⊢; exact hylen, rfl, fun M hM hM2 f hf => ?_⟩⟩
        have hf' : f ∈ st1.F ++ [⟨frs (x.recs.take j), (frs (x.recs.take j)).length⟩] := hf
        rcases List.mem_append.1 hf' with hf' | hf'
        · rw [t3] at hf'; exact hM f hf'
        · simp at hf'; subst hf'; show (frs (x.recs.take j)).length ≤ M; omega
end Wal
end Go.Proofs.YtlgjbdfnhaoloaaGreatDoor
