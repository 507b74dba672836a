/- DiskDoes, walked: the law. -/
import Derived.Test.YtiadjjdmhpabnaaDiskDoes
namespace Go.Proofs.Ytiadjjdmhpabnaa
open Go.RowKit Go.Sort
namespace Dsk
open Go.Maps
set_option linter.unusedVariables false

theorem assoc3 {I J K : Ob.Rel} {w : World} {S : Nat → Prop} (h : Ob.Tens (Ob.Tens I J) K w S) : Ob.Tens I (Ob.Tens J K) w S := by
  obtain ⟨AB, C, ⟨A, B, a, b, d1, i1⟩, c, d2, i2⟩ := h
  refine ⟨A, fun x => B x ∨ C x, a, ⟨B, C, b, c, fun x hb hc => d2 x ((i1 x).2 (.inr hb)) hc, fun x => Iff.rfl⟩, fun x ha hbc => hbc.elim (d1 x ha) (d2 x ((i1 x).2 (.inl ha))), fun x => ?_⟩
  rw [i2, i1]
  exact or_assoc
theorem drop3 {I J K : Ob.Rel} {w0 w : World} (h : Ob.Own (Ob.Tens I (Ob.Tens J K)) w0 w) : Ob.Own (Ob.Tens I J) w0 w := by
  obtain ⟨⟨S, ⟨A, BC, a, ⟨B, C, b, c, d1, i1⟩, d2, i2⟩, hS⟩, hb⟩ := h
  exact ⟨⟨fun x => A x ∨ B x, ⟨A, B, a, b, fun x ha hx => d2 x ha ((i1 x).2 (.inl hx)), fun x => Iff.rfl⟩, fun x hx => hS x ((i2 x).2 (hx.imp id fun hx => (i1 x).2 (.inl hx)))⟩, hb⟩

/-- Both disks in one state, and the act's box. -/
abbrev Twin (W : World) (p q : Nat) (st : St) (b : Nat) (o : Go.Obj) (w : World) : Prop := OwnDR (IsBox b o) W p st q st w
theorem thingT (p q : Nat) (st : St) (b : Nat) (o : Go.Obj) : Ob.Thing (DR (IsBox b o) p st q st) := thingDR (objBox b o) p st q st
theorem OwnDD.twin {W w : World} {p q : Nat} {st : St} (h : OwnDD W p st q st w) (o : Go.Obj) : Twin W p q st w.heap.size o (w.alloc o) :=
  Ob.Own.mono (Ob.Own.new (thingDD p st q st) h (T := fun x => x = w.heap.size) ⟨cell_new w o, fun x => Iff.rfl⟩ (fun b hb => by rw [hb]; exact Nat.le_refl _) ((Upon.refl _ w).alloc o)) fun S h => assoc3 h
theorem Twin.disk {W w : World} {p q b : Nat} {st : St} {o : Go.Obj} (h : Twin W p q st b o w) : ∃ S, IsDisk w S p st := let ⟨S, h1, _⟩ := h.dropr.get; ⟨S, h1⟩
theorem Twin.ref {W w : World} {p q b : Nat} {st : St} {o : Go.Obj} (h : Twin W p q st b o w) : ∃ S, IsRef w S q st := let ⟨S, h1, _⟩ := h.dropl.dropr.get; ⟨S, h1⟩
theorem Twin.box {W w : World} {p q b : Nat} {st : St} {o : Go.Obj} (h : Twin W p q st b o w) : w.heap[b]? = some o := let ⟨S, h1, _⟩ := h.dropl.dropl.get; h1.1
theorem Twin.fine {W w : World} {p q b : Nat} {st : St} {o : Go.Obj} (h : Twin W p q st b o w) : Fine st := let ⟨_, h⟩ := h.disk; h.fine
theorem Twin.upon {W w w' : World} {p q b : Nat} {st : St} {o : Go.Obj} (h : Twin W p q st b o w) (hu : Upon (fun _ => False) w w') : Twin W p q st b o w' := Ob.Own.upon0 (thingT p q st b o) h hu
theorem Twin.dead {W w : World} {p q b : Nat} {st : St} {o : Go.Obj} (h : Twin W p q st b o w) : w.cell? ⟨q, 5, none⟩ = some (.bool st.dead) := by
  obtain ⟨S, g, hg⟩ := h.ref
  exact (r7 hg.cell).2.2.2.2.2.1
theorem Twin.deadD {W w : World} {p q b : Nat} {st : St} {o : Go.Obj} (h : Twin W p q st b o w) {D : Bool} (hD : Hid (st.dead = D)) : w.cell? ⟨q, 5, none⟩ = some (.bool D) := by
  rw [← hD.out]; exact h.dead
theorem Twin.read {W w : World} {p q b : Nat} {st : St} {o : Go.Obj} (h : Twin W p q st b o w) (s : ByteArray) (hs : s.size ≤ maxLen) :
    Calls Try.prog 8 #[.pointer (some ⟨p, 0, none⟩), .string s] w fun e w' => e = .returned (.tuple #[.string ⟨(readA st s.data.toList).toArray⟩, .int .i64 (readE st s.data.toList)]) ∧ Twin W p q st b o w' := by
  obtain ⟨A, h3, h4⟩ := Ob.Own.left (Ob.Tens.ob (objF q st) (objBox b o)) h
  exact (read_any A p st s hs w h3).mono fun e w' ⟨he, hst⟩ => ⟨he, h4 _ _ hst.obj⟩
theorem Twin.rread {W w : World} {p q b : Nat} {st : St} {o : Go.Obj} (h : Twin W p q st b o w) (s : ByteArray) :
    Calls Try.prog 9 #[.pointer (some ⟨q, 0, none⟩), .string s] w fun e w' => e = .returned (.tuple #[.string ⟨(readA st s.data.toList).toArray⟩, .int .i64 (readE st s.data.toList)]) ∧ Twin W p q st b o w' := by
  obtain ⟨S, hr⟩ := h.ref
  exact (refread_any S q st s w hr h.fine.nmN.ins).mono fun e w' ⟨he, hu⟩ => ⟨he, h.upon hu⟩
theorem encStr_sv (l : List Str) : l.map encStr = l.map sv := rfl
theorem Twin.names {W w : World} {p q b : Nat} {st : St} {o : Go.Obj} (h : Twin W p q st b o w) {l : List Str} (hl : names st = l) :
    Calls Try.prog 11 #[.pointer (some ⟨p, 0, none⟩)] w fun e w' => ∃ a c, e = .returned (.slice a l.length c) ∧ RowS w' (.slice a l.length c) l ∧ Upon (fun _ => False) w w' ∧ Twin W p q st b o w' := by
  subst hl
  obtain ⟨S, hd⟩ := h.disk
  refine (names_any S p st w hd).mono ?_
  rintro e w' ⟨v, rfl, hrow, -, hb⟩
  have hu := Upon.of_below hb (fun _ => False)
  have hr : RowS w' v (Dsk.names st) := row_le hrow (Nat.zero_le _)
  obtain ⟨g, c, A, rfl, -⟩ := hr.cells
  exact ⟨A, c, rfl, hr, hu, h.upon hu⟩
theorem Twin.list {W w : World} {p q b : Nat} {st : St} {o : Go.Obj} (h : Twin W p q st b o w) {l : List Str} (hl : Dsk.names st = l) :
    Calls Try.prog 12 #[.pointer (some ⟨q, 0, none⟩)] w fun e w' => ∃ a c, e = .returned (.slice a l.length c) ∧ RowS w' (.slice a l.length c) l ∧ Upon (fun _ => False) w w' ∧ Twin W p q st b o w' := by
  subst hl
  obtain ⟨S, hr⟩ := h.ref
  refine (reflist_any S q st w hr (fine_len h.fine)).mono ?_
  rintro e w' ⟨v, rfl, hrow, hu⟩
  have hr : RowS w' v (Dsk.names st) := row_le hrow (Nat.zero_le _)
  obtain ⟨g, c, A, rfl, -⟩ := hr.cells
  exact ⟨A, c, rfl, hr, hu, h.upon hu⟩
theorem Twin.same {W w : World} {p q b : Nat} {st : St} {o : Go.Obj} (h : Twin W p q st b o w) {v1 v2 : Value} {l : List Str} (h1 : RowS w v1 l) (h2 : RowS w v2 l) :
    Calls Try.prog 10 #[v1, v2] w fun e w' => e = .returned (.bool true) ∧ Twin W p q st b o w' :=
  (same_any w v1 v2 l h1 h2).mono fun e w' ⟨he, hu⟩ => ⟨he, h.upon hu⟩
theorem Twin.up {W w : World} {p q b : Nat} {st : St} {o : Go.Obj} (h : Twin W p q st b o w) {d : Bool} (hd : st.dead = d) :
    Calls Try.prog 13 #[.pointer (some ⟨p, 0, none⟩)] w fun e w' => e = .returned (.bool (!d)) ∧ w = w' := by
  subst hd
  obtain ⟨S, hd⟩ := h.disk
  exact up_any S p st w hd
theorem Twin.used {W w : World} {p q b : Nat} {st : St} {o : Go.Obj} (h : Twin W p q st b o w) {u : Nat} (hu : Dsk.used st = u) (hle : u ≤ 4000000000000000000) :
    Calls Try.prog 14 #[.pointer (some ⟨p, 0, none⟩)] w fun e w' => e = .returned (.int .i64 (u : Int)) ∧ Twin W p q st b o w' := by
  subst hu
  obtain ⟨S, hd⟩ := h.disk
  exact (used_any S p st w hd hle).mono fun e w' ⟨he, hu⟩ => ⟨he, h.upon hu⟩
theorem Twin.rused {W w : World} {p q b : Nat} {st : St} {o : Go.Obj} (h : Twin W p q st b o w) {u : Nat} (hu : Dsk.used st = u) (hle : u ≤ 4000000000000000000) :
    Calls Try.prog 15 #[.pointer (some ⟨q, 0, none⟩)] w fun e w' => e = .returned (.int .i64 (u : Int)) ∧ Twin W p q st b o w' := by
  subst hu
  obtain ⟨S, hr⟩ := h.ref
  exact (refused_any S q st w hr h.fine.nmN.ins hle).mono fun e w' ⟨he, hu⟩ => ⟨he, h.upon hu⟩
theorem Twin.act {W w : World} {p q b k : Nat} {st : St} {o : Go.Obj} (h : Twin W p q st b o w) (hg : Grew k st) (hk : k < 120) (K : Int) (nm nt s : ByteArray) (n : Int) (kv : Value) (ks : List Int) (db : Nat) (h1 : nm.size ≤ maxLen) (h2 : nt.size ≤ maxLen) (h3 : s.size ≤ 1000) (hn : -9223372036854775808 ≤ n ∧ n ≤ 9223372036854775807)
    (hkp : KeepAt w kv ks db) (hdb : ks ≠ [] → db < W.heap.size) (hks : ks.length ≤ 200) :
    Calls Try.prog 7 #[.pointer (some ⟨p, 0, none⟩), .pointer (some ⟨q, 0, none⟩), .agg #[.int .i64 K, .string nm, .string nt, .string s, .int .i64 n, kv]] w fun e w' => e = .returned (.bool true) ∧ ∃ st2, Twin W p q st2 b o w' ∧ Grew (k + 1) st2 := by
  have hf := h.fine
  have hroom : -9223372036854775808 ≤ st.room := by obtain ⟨S, g, hr⟩ := h.ref; exact hr.wr.1
  have hfit := hg.fit hf (by omega) hroom h3
  refine (act_any (objBox b o) W w p q st st K nm nt s n kv ks db h h1 h2 h3 hn hkp hdb hks hfit.small hfit).mono ?_
  rintro e w' ⟨rfl, ho⟩
  exact ⟨by rw [beq_self_eq_true], _, ho, hg.act hf K _ _ _ n ks (by simpa using h3)⟩
theorem OpAt.on2 {W w : World} {b o : Nat} (h : OpAt W b o) (hb : b < W.heap.size) (hB : Below W.heap.size W w) : ∃ (K : Int) (nm nt s : ByteArray) (n : Int) (a : Option Addr) (c : Nat) (ks : List Int) (db : Nat),
    (w.cell? ⟨b, o, none⟩ = some (.int .i64 K) ∧ w.cell? ⟨b, o + 1, none⟩ = some (.string nm) ∧ w.cell? ⟨b, o + 2, none⟩ = some (.string nt) ∧ w.cell? ⟨b, o + 3, none⟩ = some (.string s) ∧ w.cell? ⟨b, o + 4, none⟩ = some (.int .i64 n) ∧ w.cell? ⟨b, o + 5, none⟩ = some (.slice a ks.length c)) ∧
      nm.size ≤ maxLen ∧ nt.size ≤ maxLen ∧ s.size ≤ maxLen ∧ (-9223372036854775808 ≤ K ∧ K ≤ 9223372036854775807) ∧ (-9223372036854775808 ≤ n ∧ n ≤ 9223372036854775807) ∧ ks.length ≤ maxLen ∧ (ks ≠ [] → db < W.heap.size) ∧ Hid (∀ X, Below W.heap.size W X → KeepAt X (.slice a ks.length c) ks db) := by
  obtain ⟨K, nm, nt, s, n, kv, ks, db, ⟨c0, c1, c2, c3, c4, c5⟩, z1, z2, z3, hK, hn, hk, hdb⟩ := h
  have hk0 := hk
  obtain ⟨a, c, rfl, h1, h2, _⟩ := hk
  have hh : ∀ o, w.cell? ⟨b, o, none⟩ = W.cell? ⟨b, o, none⟩ := fun o => World.cell?_of_block (hB.block b hb)
  exact ⟨K, nm, nt, s, n, a, c, ks, db, ⟨(hh _).trans c0, (hh _).trans c1, (hh _).trans c2, (hh _).trans c3, (hh _).trans c4, (hh _).trans c5⟩, z1, z2, z3, hK, hn, Nat.le_trans h1 h2, hdb, Lib.hid fun X hX => hk0.kept fun hn => hX.block db (hdb hn)⟩

set_option maxRecDepth 100000 in
set_option maxHeartbeats 16000000 in
theorem does_any (W : World) (room : Int) (hr0 : -9223372036854775808 ≤ room) (hr1 : room ≤ 9223372036854775807) (A : Option Addr) (len c0 : Nat) (hmax : len ≤ maxLen) (hops : 0 < len → ∃ b off, A = some ⟨b, off, none⟩ ∧ b < W.heap.size ∧ ∀ i, i < len → OpAt W b (off + i * 6)) :
    Calls Try.prog 3 #[.int .i64 room, .slice A len c0] W fun e w' => e = .returned (.bool true) ∧ Below W.heap.size W w' := by
  replace hmax : len ≤ 9223372036854775807 := by unfold maxLen at hmax; omega
  replace hops := Lib.hid hops
  go_enter Try.func3, Try.ntmps3
  go_wp2_with fail
  refine (new_any room ⟨hr0, hr1⟩ W).mono ?_
  intro e w1 hm
  obtain ⟨p, rfl, h1⟩ := Own.made (Below.refl _ W) hm
  replace h1 : Hid (Ob.Own (fun w S => IsDisk w S p (new room)) W w1) := Lib.hid (let ⟨S, h2, h3, h4⟩ := h1; ⟨⟨S, h2, h3⟩, h4⟩)
  clear hm
  go_wp2_with fail
  refine (refnew_any room ⟨hr0, hr1⟩ w1).mono ?_
  rintro e w2 ⟨S, q, rfl, hrf, hS, hu2⟩
  have h2 : Hid (OwnDD W p (new room) q (new room) w2) := Lib.hid (Ob.Own.new (objD p _) h1.out (T := S) hrf hS hu2)
  clear h1 hrf hS hu2
  go_wp2_with fail
  go_loopw [7] (fun i wr => ∃ (k : Nat) (st : St), k ≤ len ∧ k ≤ 120 ∧ i = .int .i64 (k : Int) ∧ OwnDD W p st q st wr ∧ Grew k st) (fun i _ => len - (intOf i).toNat)
  case atStart => exact ⟨0, _, Nat.zero_le _, Nat.zero_le _, rfl, h2.out, grew_new _⟩
  case round =>
    obtain ⟨k, st, hk1, hk2, rfl, hst, hgr⟩ := hrel
    by_cases hlt : k < len ∧ k < 120
    · obtain ⟨hlt, hlt2⟩ := hlt
      obtain ⟨bb, off, rfl, hbw, hall⟩ := hops.out (by omega)
      obtain ⟨K, nm, nt, s, n, ka, kc, ks, db, ⟨x0, x1, x2, x3, x4, x5⟩, z1, z2, z3, hK, hn, hkl, hdb, hkp⟩ := (hall k hlt).on2 hbw hst.bel
      unfold maxLen at hkl
      have HT := Lib.hid (hst.twin (.cells #[.int .i64 K, .string nm, .string nt, .string s, .int .i64 n, .slice ka ks.length kc] 29 (0, 0)))
      obtain ⟨y0, y1, y2, y3, y4, y5⟩ := box6 HT.out.box
      have HGR := Lib.hid hgr
      have HB := Lib.hid HT.out.bel
      clear hst hall h2 hgr
      by_cases hbig : 1000 < s.size ∨ 200 < ks.length
      · have hcase : decide (1000 < (s.size : Int)) = true ∨ (decide (1000 < (s.size : Int)) = false ∧ decide (200 < (ks.length : Int)) = true) := by
          by_cases h : 1000 < s.size
          · left; exact decide_eq_true (by omega)
          · right; exact ⟨decide_eq_false (by omega), decide_eq_true (by omega)⟩
        clear hkp HT HGR
        rcases hcase with e1 | ⟨e1, e2⟩
        all_goals
          go_wp2_with fail
          go_ret
          exact ⟨rfl, HB.out⟩
      · have e1 : decide (1000 < (s.size : Int)) = false := decide_eq_false (by omega)
        have e2 : decide (200 < (ks.length : Int)) = false := decide_eq_false (by omega)
        have hact := Lib.hid (HT.out.act HGR.out hlt2 K nm nt s n (.slice ka ks.length kc) ks db z1 z2 (by omega) hn (hkp.out _ HB.out) hdb (by omega))
        clear hkp HT HGR HB hbig hdb hn
        go_wp2_with fail
        refine hact.out.mono ?_
        rintro e w3 ⟨rfl, st2, h3, hg2⟩
        have hfit := hg2.fit h3.fine (by omega) (by obtain ⟨S, g, hr⟩ := h3.ref; exact hr.wr.1) (z := 0) (by omega)
        have hus : Hid (used st2 ≤ 4000000000000000000) := Lib.hid (by have := hfit.small.used; omega)
        obtain ⟨-, n1, -, -, -, -⟩ := box6 h3.box
        replace h3 := Lib.hid h3
        replace hg2 := Lib.hid hg2
        clear hact hfit y0 y1 y2 y3 y4 y5 x0 x1 x2 x3 x4 x5
        go_wp2_with fail
        refine (h3.out.read nm z1).mono ?_
        rintro e w4 ⟨rfl, h4⟩
        obtain ⟨-, n2, -, -, -, -⟩ := box6 h4.box
        replace h4 := Lib.hid h4
        clear h3 n1
        go_wp2_with fail
        refine (h4.out.rread nm).mono ?_
        rintro e w5 ⟨rfl, h5⟩
        clear h4 n2
        obtain ⟨U, hU⟩ : ∃ U, used st2 = U := ⟨_, rfl⟩
        obtain ⟨D, hD⟩ : ∃ D, st2.dead = D := ⟨_, rfl⟩
        obtain ⟨L, hL⟩ : ∃ L, names st2 = L := ⟨_, rfl⟩
        have hUle : U ≤ 4000000000000000000 := by rw [← hU]; exact hus.out
        have hDD : ((!D) == D) = false := by cases D <;> rfl
        replace hU := Lib.hid hU
        replace hD := Lib.hid hD
        replace hL := Lib.hid hL
        generalize readA st2 nm.data.toList = RA at *
        generalize readE st2 nm.data.toList = RE at *
        clear hus
        have h5' := h5.upon (quiet_upon w5 1)
        change Twin W p q st2 _ _ w5.drew at h5'
        have d5' := h5'.deadD hD
        replace h5 := Lib.hid h5
        go_wp2_with fail
        go_region_held3 (fun w' => w'.cell? ⟨q, 5, none⟩ = some (.bool D))
          (assumption)
          (first
          | (go_at_call 11; (first | refine (hl.names hL.out).mono ?_ | refine (h5'.names hL.out).mono ?_); rintro e wn ⟨na, nc, rfl, rn, un, hn⟩; have dn := hn.deadD hD)
          | (go_at_call 12; (first | refine (hn.list hL.out).mono ?_ | refine (h5'.list hL.out).mono ?_); rintro e wl ⟨la, lc, rfl, rl, ul, hl⟩; have dl := hl.deadD hD)
          | (go_at_call 10; (first | refine (hl.same (rn.upon ul) rl).mono ?_ | refine (hn.same rn (rl.upon un)).mono ?_); rintro e ws ⟨rfl, hs⟩; have ds := hs.deadD hD)
          | (go_at_call 13; refine (hs.up hD.out).mono ?_; rintro e wu ⟨rfl, rfl⟩)
          | (go_at_call 14; (first | refine (hru.used hU.out hUle).mono ?_ | refine (hs.used hU.out hUle).mono ?_); rintro e wa ⟨rfl, hda⟩; have da := hda.deadD hD)
          | (go_at_call 15; (first | refine (hda.rused hU.out hUle).mono ?_ | refine (hs.rused hU.out hUle).mono ?_); rintro e wb ⟨rfl, hru⟩; have db2 := hru.deadD hD)
          | fail)
        all_goals
          replace hda := Lib.hid (drop3 hda)
          replace hru := Lib.hid (drop3 hru)
          clear hs hn hl rn rl un ul h5 h5' dn dl ds da db2 d5'
          go_wp2_with fail
          go_roundw
          case rel =>
            first
            | exact ⟨k + 1, st2, by omega, by omega, by go_num, hru.out, hg2.out⟩
            | exact ⟨k + 1, st2, by omega, by omega, by go_num, hda.out, hg2.out⟩
          case measure => simp [intOf]; omega
    · have hB := Lib.hid hst.bel
      have hcond : decide (k < len) = false ∨ (decide (k < len) = true ∧ decide ((k : Int) < 120) = false) := by
        by_cases h : k < len
        · right; simp; omega
        · left; simp; omega
      clear hst hgr hops h2 hlt
      rcases hcond with hc1 | ⟨hc1, hc2⟩
      all_goals
        go_wp2_with fail
        go_ret
        exact ⟨rfl, hB.out⟩
theorem does_pick (W : World) (room : Int) (v : Value) (hr0 : -9223372036854775808 ≤ room) (hr1 : room ≤ 9223372036854775807) (ho : IsOps v W) :
    Calls Try.prog 3 #[.int .i64 room, v] W fun e w' => e = .returned (.bool true) ∧ Below W.heap.size W w' := by
  obtain ⟨A, len, c0, rfl, hm, hops⟩ := ho
  exact does_any W room hr0 hr1 A len c0 hm hops
end Dsk
end Go.Proofs.Ytiadjjdmhpabnaa
