/- DiskLasts, walked: what was synced is there behind any crash. -/
import Derived.Test.YtiadjjdmhpabnaaDiskPair2
import Derived.Test.YtiadjjdmhpabnaaDiskOps
namespace Go.Proofs.Ytiadjjdmhpabnaa
open Go.RowKit Go.Sort
namespace Dsk
open Go.Maps
set_option linter.unusedVariables false

abbrev IT : ByteArray := ⟨#[105, 116]⟩
theorem it_ne {s : ByteArray} (h : ¬ s.toList = [105, 116]) : s.data.toList ≠ itN := by
  rw [toList_is] at h; exact h
theorem siz_act {k : Nat} {st : St} (hf : Fine st) (h : Siz k st) (K : Int) (nm nt s : Str) (n : Int) (ks : List Int) (hs : s.length ≤ 1000) (hK : K ≠ 5) : Siz (k + 1) (actS K nm nt s n ks st) := by
  unfold actS
  split
  · exact siz_append hf h nm s hs
  split
  · exact siz_sync h nm
  split
  · exact siz_ren h nm nt
  split
  · exact siz_rem h nm
  split
  · exact siz_sn hf h
  split
  · exact siz_crash hf h ks
  · exact h.more
theorem noIt_act {st : St} (h : NoIt st) (K : Int) (nm nt s : Str) (n : Int) (ks : List Int) (hn : nm ≠ itN) (ht : nt ≠ itN) (hK : K ≠ 5) : NoIt (actS K nm nt s n ks st) := by
  unfold actS
  split
  · exact noIt_append h nm s hn
  split
  · exact noIt_sync h nm
  split
  · exact noIt_ren h nm nt ht
  split
  · exact noIt_rem h nm
  split
  · exact noIt_sn h
  split
  · exact noIt_crash h ks
  · exact h
theorem Siz.small {k : Nat} {st : St} (hf : Fine st) (h : Siz k st) (hk : k ≤ 42) {z : Nat} (hz : z ≤ 1000) : Small st z :=
  ⟨by have := h.usedLe hf hk; omega, fun f hm => by have := h.files hk f hm; omega, by have := h.nC; omega, by omega⟩
theorem rfit_new (r : Int) (hr : -9223372036854775808 ≤ r) {z : Nat} (hz : z ≤ 1000) : RFit (new r) z :=
  ⟨⟨by simp [used, new]; omega, (fun f hf => by cases hf), by simp [new], by omega⟩, by simp [used, new]; omega, by simp [new], fine_new r⟩
theorem Own.ob {W w : World} {p : Nat} {st : St} (h : Own W p st w) : Ob.Own (fun w S => IsDisk w S p st) W w := let ⟨S, h1, h2, h3⟩ := h; ⟨⟨S, h1, h2⟩, h3⟩
theorem Own.of_ob {W w : World} {p : Nat} {st : St} (h : Ob.Own (fun w S => IsDisk w S p st) W w) : Own W p st w := let ⟨⟨S, h1, h2⟩, h3⟩ := h; ⟨S, h1, h2, h3⟩
/-- What holds at the head of each round. -/
structure Loops (W : World) (p k : Nat) (st : St) (w : World) : Prop where
  own : Own W p st w
  siz : Siz k st
  no : NoIt st
theorem Loops.skip {W w w' : World} {p k : Nat} {st : St} (h : Loops W p k st w) (hu : Upon (fun _ => False) w w') : Loops W p (k + 1) st w' := ⟨h.own.grow hu, h.siz.more, h.no⟩
theorem OpAt.on {W w : World} {b o : Nat} (h : OpAt W b o) (hb : b < W.heap.size) (hB : Below W.heap.size W w) : ∃ (K : Int) (nm nt s : ByteArray) (n : Int) (a : Option Addr) (c : Nat) (ks : List Int) (db : Nat),
    (w.cell? ⟨b, o, none⟩ = some (.int .i64 K) ∧ w.cell? ⟨b, o + 1, none⟩ = some (.string nm) ∧ w.cell? ⟨b, o + 2, none⟩ = some (.string nt) ∧ w.cell? ⟨b, o + 3, none⟩ = some (.string s) ∧ w.cell? ⟨b, o + 4, none⟩ = some (.int .i64 n) ∧ w.cell? ⟨b, o + 5, none⟩ = some (.slice a ks.length c)) ∧
      nm.size ≤ maxLen ∧ nt.size ≤ maxLen ∧ s.size ≤ maxLen ∧ (-9223372036854775808 ≤ K ∧ K ≤ 9223372036854775807) ∧ (-9223372036854775808 ≤ n ∧ n ≤ 9223372036854775807) ∧ ks.length ≤ maxLen ∧ (ks ≠ [] → db < W.heap.size) ∧ Hid (∀ X, Below W.heap.size W X → KeepAt X (.slice a ks.length c) ks db) := by
  obtain ⟨K, nm, nt, s, n, kv, ks, db, ⟨c0, c1, c2, c3, c4, c5⟩, z1, z2, z3, hK, hn, hk, hdb⟩ := h
  have hk0 := hk
  obtain ⟨a, c, rfl, h1, h2, _⟩ := hk
  have hh : ∀ o, w.cell? ⟨b, o, none⟩ = W.cell? ⟨b, o, none⟩ := fun o => World.cell?_of_block (hB.block b hb)
  exact ⟨K, nm, nt, s, n, a, c, ks, db, ⟨(hh _).trans c0, (hh _).trans c1, (hh _).trans c2, (hh _).trans c3, (hh _).trans c4, (hh _).trans c5⟩, z1, z2, z3, hK, hn, Nat.le_trans h1 h2, hdb, Lib.hid fun X hX => hk0.kept fun hn => hX.block db (hdb hn)⟩
/-- A document's disk is made, and an act done to both. -/
theorem Loops.act {W w w1 : World} {p k : Nat} {st : St} (h : Loops W p k st w) (hk : k < 40) (hu : Upon (fun _ => False) w w1) (K : Int) (nm nt s : ByteArray) (n : Int) (kv : Value) (ks : List Int) (db : Nat) (h1 : nm.size ≤ maxLen) (h2 : nt.size ≤ maxLen) (h3 : s.size ≤ 1000) (hn : -9223372036854775808 ≤ n ∧ n ≤ 9223372036854775807)
    (hkp : Hid (∀ X, Below W.heap.size W X → KeepAt X kv ks db)) (hdb : ks ≠ [] → db < W.heap.size) (hks : ks.length ≤ 200) (n1 : ¬ nm.toList = [105, 116]) (n2 : ¬ nt.toList = [105, 116]) (hK : K ≠ 5) :
    Calls Try.prog 6 #[.int .i64 0] w1 fun e w2 => ∃ q, e = .returned (.pointer (some ⟨q, 0, none⟩)) ∧ Upon (fun _ => False) w1 w2 ∧ ∀ w3, Upon (fun _ => False) w2 w3 →
      Calls Try.prog 7 #[.pointer (some ⟨p, 0, none⟩), .pointer (some ⟨q, 0, none⟩), .agg #[.int .i64 K, .string nm, .string nt, .string s, .int .i64 n, kv]] w3 fun e w' => (∃ b, e = .returned (.bool b)) ∧ ∃ st2, Loops W p (k + 1) st2 w' := by
  refine (refnew_any 0 (by omega) w1).mono ?_
  rintro e w2 ⟨S, q, rfl, hr, hS, hu2⟩
  refine ⟨q, rfl, hu2, fun w3 hu3 => ?_⟩
  have hd := Ob.Own.upon0 (objD p st) h.own.ob hu
  have hdd : OwnDD W p st q (new 0) w2 := Ob.Own.new (objD p st) hd (T := S) hr hS hu2
  have hdd3 := Ob.Own.upon0 (thingDD p st q (new 0)) hdd hu3
  have hf := h.own.fine
  refine (act_any W w3 p q st (new 0) K nm nt s n kv ks db hdd3 h1 h2 h3 hn (hkp.out _ hdd3.bel) hdb hks (h.siz.small hf (by omega) h3) (rfit_new 0 (by omega) h3)).mono ?_
  rintro e w' ⟨rfl, ho⟩
  exact ⟨⟨_, rfl⟩, _, Own.of_ob ho.dropr, siz_act hf h.siz K _ _ _ n ks (by simpa using h3) hK, noIt_act h.no K _ _ _ n ks (it_ne n1) (it_ne n2) hK⟩

theorem text_take (a b : ByteArray) (m : Nat) (hm : m ≤ a.size + b.size) : ∃ S AB : ByteArray, (⟨((a.data.toList ++ b.data.toList).take m).toArray⟩ : ByteArray) = S ∧ a ++ b = AB ∧ S.size = m ∧ AB.size = a.size + b.size ∧ AB.extract 0 m = S := by
  refine ⟨_, _, rfl, rfl, ?_, by simp, ?_⟩
  · show ((a.data.toList ++ b.data.toList).take m).toArray.size = m
    rw [List.size_toArray, List.length_take, List.length_append]
    have h1 : a.data.toList.length = a.size := by simp
    have h2 : b.data.toList.length = b.size := by simp
    omega
  · apply ByteArray.ext
    simp [List.take_append]
/-- The last acts, one after the other. -/
structure Ends (W : World) (p : Nat) (st : St) (a b : ByteArray) (w : World) : Prop where
  app : Calls Try.prog 17 #[.pointer (some ⟨p, 0, none⟩), .string IT, .string a] w fun e w1 => e = .returned (.int .i64 0) ∧
    Calls Try.prog 18 #[.pointer (some ⟨p, 0, none⟩), .string IT] w1 fun e w2 => e = .returned (.int .i64 0) ∧
      Calls Try.prog 19 #[.pointer (some ⟨p, 0, none⟩)] w2 fun e w3 => e = .returned (.int .i64 0) ∧
        Calls Try.prog 17 #[.pointer (some ⟨p, 0, none⟩), .string IT, .string b] w3 fun e w4 => e = .returned (.int .i64 0) ∧ Own W p (lst st (a.data.toList ++ b.data.toList) a.data.toList.length) w4 ∧ Small (lst st (a.data.toList ++ b.data.toList) a.data.toList.length) 0
theorem Loops.ends {W w : World} {p k : Nat} {st : St} (h : Loops W p k st w) (hk : k ≤ 40) (h64 : st.N.length < 64) (a b : ByteArray) (ha : a.size ≤ 1000) (hb : b.size ≤ 1000) : Ends W p st a b w := by
  have hf := h.own.fine
  have hal : a.data.toList.length ≤ 1000 := by simpa using ha
  have hbl : b.data.toList.length ≤ 1000 := by simpa using hb
  have hi : IT.size ≤ maxLen := by decide
  obtain ⟨e1, s1⟩ := last_append hf h.siz hk h.no h64 a.data.toList hal
  have c1 := h.own.append IT a hi (h.siz.small hf (by omega) ha)
  rw [show IT.data.toList = itN from rfl, e1] at c1
  refine ⟨c1.mono ?_⟩
  rintro e w1 ⟨rfl, o1⟩
  obtain ⟨e2, s2⟩ := last_sync hf h.siz a.data.toList s1
  have c2 := o1.sync IT hi
  rw [show IT.data.toList = itN from rfl, e2] at c2
  refine ⟨rfl, c2.mono ?_⟩
  rintro e w2 ⟨rfl, o2⟩
  obtain ⟨e3, s3⟩ := last_sn hf h.siz a.data.toList o2.fine s2
  have c3 := o2.syncNames
  rw [e3] at c3
  refine ⟨rfl, c3.mono ?_⟩
  rintro e w3 ⟨rfl, o3⟩
  rw [s3] at o3
  have hf3 := o3.fine
  obtain ⟨u3, z3⟩ := last_small hf h.siz hk h.no h64 a.data.toList hal hf3
  obtain ⟨e4, s4⟩ := last_append2 hf h.siz hk a.data.toList b.data.toList hal hbl (by omega)
  have c4 := o3.append IT b hi (z3.small hf3 (by omega) hb)
  rw [show IT.data.toList = itN from rfl, e4, s4] at c4
  have z4 := siz_append hf3 z3 itN b.data.toList hbl
  rw [s4] at z4
  exact ⟨rfl, c4.mono fun e w4 ⟨he, o4⟩ => ⟨he, o4, z4.small o4.fine (by omega) (Nat.zero_le _)⟩⟩

set_option maxRecDepth 100000 in
set_option maxHeartbeats 8000000 in
theorem lasts_walk (W : World) (A : Option Addr) (len c0 : Nat) (a b : ByteArray) (x : Option Addr) (c : Nat) (ks : List Int) (db : Nat) (hmax : len ≤ maxLen) (hops : 0 < len → ∃ b off, A = some ⟨b, off, none⟩ ∧ b < W.heap.size ∧ ∀ i, i < len → OpAt W b (off + i * 6))
    (ha : a.size ≤ 1000) (hb : b.size ≤ 1000) (hkl : ks.length ≤ 200) (hk : KeepAt W (.slice x ks.length c) ks db) (hdb : ks ≠ [] → db < W.heap.size) :
    Calls Try.prog 4 #[.slice A len c0, .string a, .string b, .slice x ks.length c] W (Yes W) := by
  replace hmax : len ≤ 9223372036854775807 := by unfold maxLen at hmax; omega
  replace hops := Lib.hid hops
  replace hk := Lib.hid hk
  have d1 : decide (1000 < (a.size : Int)) = false := decide_eq_false (by omega)
  have d2 : decide (1000 < (b.size : Int)) = false := decide_eq_false (by omega)
  have d3 : decide (200 < (ks.length : Int)) = false := decide_eq_false (by omega)
  go_enter Try.func4, Try.ntmps4
  go_wp2_with fail
  refine (works_true W).mono ?_
  rintro e w1 ⟨rfl, hb0⟩
  go_wp2_with fail
  refine (new_any 1048576 (by omega) w1).mono ?_
  intro e w2 hm
  obtain ⟨p, rfl, h2⟩ := Own.made hb0 hm
  have hlp : Hid (Loops W p 0 (new 1048576) w2) := Lib.hid ⟨h2, siz_new, noIt_new _⟩
  clear hm hb0 h2 d1 d2 d3
  go_wp2_with fail
  go_loopw [10] (fun i wr => ∃ (k : Nat) (st : St), k ≤ len ∧ k ≤ 40 ∧ i = .int .i64 (k : Int) ∧ Loops W p k st wr) (fun i _ => len - (intOf i).toNat)
  case atStart => exact ⟨0, _, Nat.zero_le _, Nat.zero_le _, rfl, hlp.out⟩
  case round =>
    obtain ⟨k, st, hk1, hk2, rfl, hst⟩ := hrel
    by_cases hlt : k < len ∧ k < 40
    · obtain ⟨hlt, hlt2⟩ := hlt
      obtain ⟨bb, off, rfl, hbw, hall⟩ := hops.out (by omega)
      obtain ⟨K, nm, nt, s, n, ka, kc, ks2, db2, ⟨x0, x1, x2, x3, x4, x5⟩, z1, z2, z3, hK, hn, hkl2, hdb2, hkp2⟩ := (hall k hlt).on hbw hst.own.below
      unfold maxLen at hkl2
      have HST := Lib.hid hst
      clear hst hall hlp
      have hup : Upon (fun _ => False) wr (wr.alloc (.cells #[.int .i64 K, .string nm, .string nt, .string s, .int .i64 n, .slice ka ks2.length kc] 29 (0, 0))) := (Upon.refl _ wr).alloc _
      have HSK := Lib.hid (HST.out.skip hup)
      have hbx := cell_new wr (.cells #[.int .i64 K, .string nm, .string nt, .string s, .int .i64 n, .slice ka ks2.length kc] 29 (0, 0))
      have hcase : nm.toList = [105, 116] ∨ (¬ nm.toList = [105, 116] ∧ nt.toList = [105, 116]) ∨ (¬ nm.toList = [105, 116] ∧ ¬ nt.toList = [105, 116] ∧ decide (1000 < (s.size : Int)) = true) ∨ (¬ nm.toList = [105, 116] ∧ ¬ nt.toList = [105, 116] ∧ decide (1000 < (s.size : Int)) = false ∧ decide (200 < (ks2.length : Int)) = true) ∨
          (¬ nm.toList = [105, 116] ∧ ¬ nt.toList = [105, 116] ∧ decide (1000 < (s.size : Int)) = false ∧ decide (200 < (ks2.length : Int)) = false ∧ (K == 5) = true) ∨ (¬ nm.toList = [105, 116] ∧ ¬ nt.toList = [105, 116] ∧ decide (1000 < (s.size : Int)) = false ∧ decide (200 < (ks2.length : Int)) = false ∧ (K == 5) = false) := by
        by_cases f1 : nm.toList = [105, 116]
        · exact .inl f1
        by_cases f2 : nt.toList = [105, 116]
        · exact .inr (.inl ⟨f1, f2⟩)
        cases f3 : decide (1000 < (s.size : Int)) <;> cases f4 : decide (200 < (ks2.length : Int)) <;> cases f5 : (K == 5) <;> simp [f1, f2]
      rcases hcase with e1 | ⟨e1, e2⟩ | ⟨e1, e2, e3⟩ | ⟨e1, e2, e3, e4⟩ | ⟨e1, e2, e3, e4, e5⟩ | ⟨e1, e2, e3, e4, e5⟩
      case inr.inr.inr.inr.inr =>
        have hs3 : s.size ≤ 1000 := by have := of_decide_eq_false e3; omega
        have hk3 : ks2.length ≤ 200 := by have := of_decide_eq_false e4; omega
        have hact := Lib.hid (fun X (hX : Upon (fun _ => False) wr X) => HST.out.act hlt2 hX K nm nt s n (.slice ka ks2.length kc) ks2 db2 z1 z2 hs3 hn hkp2 hdb2 hk3 e1 e2 (by simpa using e5))
        have g1 : (nm.toList == [105, 116]) = false := by simpa using e1
        have g2 : (nt.toList == [105, 116]) = false := by simpa using e2
        have HBX : Hid (∀ Y, Upon (fun _ => False) (wr.alloc (.cells #[.int .i64 K, .string nm, .string nt, .string s, .int .i64 n, .slice ka ks2.length kc] 29 (0, 0))) Y → Y.cell? ⟨wr.heap.size, 0, none⟩ = some (.int .i64 K) ∧ Y.cell? ⟨wr.heap.size, 1, none⟩ = some (.string nm) ∧ Y.cell? ⟨wr.heap.size, 2, none⟩ = some (.string nt) ∧
            Y.cell? ⟨wr.heap.size, 3, none⟩ = some (.string s) ∧ Y.cell? ⟨wr.heap.size, 4, none⟩ = some (.int .i64 n) ∧ Y.cell? ⟨wr.heap.size, 5, none⟩ = some (.slice ka ks2.length kc)) := Lib.hid fun Y hY => box6 ((hY.block wr.heap.size (by simp) (fun f => f)).trans hbx)
        obtain ⟨y0, y1, y2, y3, y4, y5⟩ := box6 hbx
        replace hup := Lib.hid hup
        clear hkp2 hdb2 z1 z2 z3 hbx
        go_wp2_with fail
        go_region_with (first
          | (go_at_call 6; refine (hact.out _ (Upon.trans hup.out (by repeat (first | exact Upon.refl _ _ | refine Upon.drew ?_)))).mono ?_; rintro e w3 ⟨q, rfl, hu3, hnx⟩; obtain ⟨v0, v1, v2, v3, v4, v5⟩ := HBX.out w3 (Upon.trans (by repeat (first | exact Upon.refl _ _ | refine Upon.drew ?_)) hu3); replace hnx := Lib.hid hnx; clear hu3)
          | (go_at_call 7; refine (hnx.out _ (by repeat (first | exact Upon.refl _ _ | refine Upon.drew ?_))).mono ?_; rintro e w4 ⟨⟨bl, rfl⟩, st2, hl2⟩; replace hl2 := Lib.hid hl2)
          | fail)
        all_goals
          go_wp2_with fail
          go_roundw
          case rel => exact ⟨k + 1, st2, by omega, by omega, by go_num, hl2.out⟩
          case measure => simp [intOf]; omega
      all_goals
        clear hkp2 hbx hup
        go_wp2_with fail
        go_roundw
        case rel => exact ⟨k + 1, st, by omega, by omega, by go_num, HSK.out⟩
        case measure => simp [intOf]; omega
    · have hcond : decide (k < len) = false ∨ (decide (k < len) = true ∧ decide ((k : Int) < 40) = false) := by
        by_cases h : k < len
        · right; simp; omega
        · left; simp; omega
      have HST := Lib.hid hst
      have hnm := Lib.hid hst.own.names
      clear hst hops hlp hlt
      rcases hcond with hc1 | ⟨hc1, hc2⟩
      all_goals
        go_wp2_with fail
        refine hnm.out.mono ?_
        rintro e w3 ⟨⟨v, rfl, hrow, -, -⟩, ho3⟩
        have hst3 : Loops W p k st w3 := ⟨ho3, HST.out.siz, HST.out.no⟩
        have hnl : (names st).length = st.N.length := by unfold names; rw [HST.out.siz.up]; simp
        obtain ⟨va, vc, rfl⟩ : ∃ a c, v = .slice a (names st).length c := by
          rcases hrow.2 with ⟨h1, h2⟩ | ⟨g, cap, cur, h1, _⟩
          · exact ⟨none, 0, by rw [h1, h2]⟩
          · exact ⟨_, _, h1⟩
        rw [hnl]
        have hB := Lib.hid ho3.below
        have hend := Lib.hid (fun h64 => hst3.ends hk2 h64 a b ha hb)
        have hfi := Lib.hid ho3.fine
        clear hrow ho3 hst3 hnl hnm HST
        by_cases h64 : st.N.length < 64
        · have d6 : decide ((64 : Int) ≤ (st.N.length : Int)) = false := decide_eq_false (by omega)
          have he := Lib.hid (hend.out h64).app
          clear hend
          go_wp2_with fail
          refine he.out.mono ?_
          rintro e w4 ⟨rfl, he2⟩
          replace he2 := Lib.hid he2
          clear he
          go_wp2_with fail
          refine he2.out.mono ?_
          rintro e w5 ⟨rfl, he3⟩
          replace he3 := Lib.hid he3
          clear he2
          go_wp2_with fail
          refine he3.out.mono ?_
          rintro e w6 ⟨rfl, he4⟩
          replace he4 := Lib.hid he4
          clear he3
          go_wp2_with fail
          refine he4.out.mono ?_
          rintro e w7 ⟨rfl, h7, hsm⟩
          replace h7 := Lib.hid h7
          clear he4
          have hkg : KeepAt (w7.alloc (.cells #[] 3 (0, 0))) (.slice x ks.length c) ks db := hk.out.kept fun hn => (Below.heap_alloc _ _ _ (Nat.lt_of_lt_of_le (hdb hn) h7.out.below.size)).trans (h7.out.below.block db (hdb hn))
          have HKG := Lib.hid hkg
          clear hkg
          go_wp2_with (at_builtin; refine wpList_copy _ rfl _ _ rfl w7.heap.size (cell_new w7 _) _ ks db rfl rfl HKG.out (by omega) ?_)
          intro v' db' wk hkk hup hnew
          have hcr := Lib.hid (h7.out.crash (Upon.trans (Upon.alloc (Upon.refl _ _) _) hup) hkk (fun hn => by have := (hnew hn).1; have := (hnew hn).2; simp at *; omega) hsm)
          obtain ⟨ua, un, uc, rfl⟩ : ∃ a n c, v' = .slice a n c := by obtain ⟨a, c, e, _⟩ := hkk; exact ⟨a, _, c, e⟩
          clear hkk hup hnew h7 hsm
          go_wp2_with fail
          refine hcr.out.mono ?_
          rintro e w8 ⟨rfl, h8⟩
          obtain ⟨m, hm1, hm2, hrd1, hrd2⟩ : ∃ m, a.data.toList.length ≤ m ∧ m ≤ (a.data.toList ++ b.data.toList).length ∧ readE (crash (lst st (a.data.toList ++ b.data.toList) a.data.toList.length) ks) itN = 0 ∧ readA (crash (lst st (a.data.toList ++ b.data.toList) a.data.toList.length) ks) itN = (a.data.toList ++ b.data.toList).take m := by
            obtain ⟨h1, m, h2, h3, h4⟩ := last_read hfi.out a.data.toList b.data.toList ks
            exact ⟨m, h2, h3, h1, h4⟩
          have hrd := h8.read IT (by decide)
          rw [show IT.data.toList = itN from rfl, hrd1, hrd2] at hrd
          have hal : a.data.toList.length = a.size := by simp
          have hbl : b.data.toList.length = b.size := by simp
          rw [List.length_append, hal, hbl] at hm2
          rw [hal] at hm1
          obtain ⟨S, AB, hS, hAB, hSs, hABs, hex⟩ := text_take a b m hm2
          rw [hS] at hrd
          rw [← hSs] at hm1 hm2 hex
          have hadd := fun (X : World) => run_string_add_sum (P := Try.prog) X a b (by omega)
          rw [hAB] at hadd
          replace hrd := Lib.hid hrd
          clear hcr h8 hrd1 hrd2 hal hbl hS hSs hAB
          go_wp2_with fail
          refine hrd.out.mono ?_
          rintro e w9 ⟨rfl, h9⟩
          have hB9 := Lib.hid h9.below
          clear hrd h9
          go_wp2_with fail
          go_ret
          exact ⟨rfl, hB9.out⟩
        · have d6 : decide ((64 : Int) ≤ (st.N.length : Int)) = true := decide_eq_true (by omega)
          clear hend
          go_wp2_with fail
          go_ret
          exact ⟨rfl, hB.out⟩
set_option maxRecDepth 100000 in
set_option maxHeartbeats 1600000 in
theorem lasts_long (W : World) (v : Value) (a b : ByteArray) (x : Option Addr) (c n : Nat) (hlong : 1000 < a.size ∨ 1000 < b.size ∨ 200 < n) (ha : a.size ≤ 140737488351232) (hb : b.size ≤ 140737488351232) (hn : n ≤ 9223372036854775807) :
    Calls Try.prog 4 #[v, .string a, .string b, .slice x n c] W (Yes W) := by
  have hcase : decide (1000 < (a.size : Int)) = true ∨ (decide (1000 < (a.size : Int)) = false ∧ decide (1000 < (b.size : Int)) = true) ∨ (decide (1000 < (a.size : Int)) = false ∧ decide (1000 < (b.size : Int)) = false ∧ decide (200 < (n : Int)) = true) := by
    by_cases h1 : 1000 < a.size
    · left; exact decide_eq_true (by omega)
    by_cases h2 : 1000 < b.size
    · right; left; exact ⟨decide_eq_false (by omega), decide_eq_true (by omega)⟩
    · right; right; exact ⟨decide_eq_false (by omega), decide_eq_false (by omega), decide_eq_true (by omega)⟩
  clear hlong
  rcases hcase with e1 | ⟨e1, e2⟩ | ⟨e1, e2, e3⟩
  all_goals
    go_enter Try.func4, Try.ntmps4
    go_wp2_with fail
    refine (works_true W).mono ?_
    rintro e w1 ⟨rfl, hb0⟩
    replace hb0 := Lib.hid hb0
    go_wp2_with fail
    go_ret
    exact ⟨rfl, hb0.out⟩
theorem lasts_true (W : World) (v : Value) (a b : ByteArray) (kv : Value) (ho : IsOps v W) (ha : a.size ≤ 140737488351232) (hb : b.size ≤ 140737488351232) (hk : IsInts kv W) :
    Calls Try.prog 4 #[v, .string a, .string b, kv] W (Yes W) := by
  obtain ⟨ks, db, hkp, hdb⟩ := hk
  have hkp0 := hkp
  obtain ⟨x, c, rfl, h1, h2, _⟩ := hkp
  unfold maxLen at h2
  by_cases hlong : 1000 < a.size ∨ 1000 < b.size ∨ 200 < ks.length
  · exact lasts_long W v a b x c ks.length hlong ha hb (by omega)
  · obtain ⟨A, len, c0, rfl, hm, hops⟩ := ho
    exact lasts_walk W A len c0 a b x c ks db hm hops (by omega) (by omega) (by omega) hkp0 hdb
theorem lasts_pick (W : World) (v : Value) (a b : ByteArray) (kv : Value) (ho : IsOps v W) (ha : a.size ≤ 140737488351232) (hb : b.size ≤ 140737488351232) (hk : IsInts kv W) :
    Calls Try.prog 4 #[v, .string a, .string b, kv] W fun e w' => e = .returned (.bool true) ∧ Below W.heap.size W w' := lasts_true W v a b kv ho ha hb hk
end Dsk
end Go.Proofs.Ytiadjjdmhpabnaa
