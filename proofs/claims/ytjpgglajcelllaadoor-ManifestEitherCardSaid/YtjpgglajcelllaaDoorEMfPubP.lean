/- Manifests (layer 17): the program's Publish and Load over its disk. -/
import Derived.Test.YtjpgglajcelllaaDoorEMfPub
import Derived.Test.YtjpgglajcelllaaDoorEMfEnc
import Derived.Test.YtjpgglajcelllaaDoorEMfSix
set_option maxRecDepth 100000
namespace Go.Proofs.YtjpgglajcelllaaDoor
open Go.RowKit
namespace Mf
open Bit Dsk Ob Dig
set_option linter.unusedVariables false
/-- The names as texts. -/
theorem nN_is : nN = [110] := rfl
theorem sz_n : (⟨#[110]⟩ : ByteArray).size ≤ maxLen := by unfold maxLen; decide
theorem sz_m : (⟨#[109]⟩ : ByteArray).size ≤ maxLen := by unfold maxLen; decide
set_option maxHeartbeats 6400000 in
theorem fresh_any (S : Nat → Prop) (p : Nat) (st : St) (hC : st.C.length ≤ 1000000000) (w : World) (h : IsDisk w S p st) :
    Calls Tryd.prog 45 #[.pointer (some ⟨p, 0, none⟩)] w fun e w' => e = .returned (.int .i64 (pre st).2) ∧ Step S p (pre st).1 w w' := by
  have H1 := Lib.hid (read_any S p st ⟨#[110]⟩ sz_n w h)
  have H2 := Lib.hid (fun w' S' (h' : IsDisk w' S' p st) => rem_any S' p st ⟨#[110]⟩ sz_n hC w' h')
  by_cases hr : readE st [110] = 0
  · have hp : pre st = (remS st [110], remE st [110]) := by unfold pre; rw [nN_is, if_pos hr]
    rw [hp]
    go_enter Tryd.func45, Tryd.ntmps45
    go_wp2_with fail
    refine H1.out.mono ?_
    rintro e w1 ⟨rfl, s1⟩
    rw [hr]
    obtain ⟨⟨S', h1, h2, h3⟩, hu⟩ := s1
    have H3 := Lib.hid (H2.out w1 S' h1)
    have s1 : Hid (∀ st2 w2, Step S' p st2 w1 w2 → Step S p st2 w w2) := Lib.hid (fun st2 w2 k => Been.step ⟨h2, h3, hu⟩ k)
    clear H1 H2 h1 h2 h3 hu
    go_wp2_with fail
    refine H3.out.mono ?_
    rintro e w2 ⟨rfl, s2⟩
    have hend := Lib.hid (s1.out _ _ s2)
    clear H3 s1 s2
    go_wp2_with fail
    go_ret
    exact ⟨rfl, hend.out⟩
  · have hp : pre st = (st, 0) := by unfold pre; rw [nN_is, if_neg hr]
    rw [hp]
    go_enter Tryd.func45, Tryd.ntmps45
    go_wp2_with fail
    refine H1.out.mono ?_
    rintro e w1 ⟨rfl, s1⟩
    replace s1 := Lib.hid s1
    clear H1 H2
    go_wp2_with fail
    go_ret
    exact ⟨rfl, s1.out⟩
/-! ### the four closures -/
theorem c1_any (S : Nat → Prop) (p d : Nat) (st : St) (hC : st.C.length ≤ 1000000000) (w : World) (h : IsDisk w S p st) (T : TypeId) (hd : w.heap[d]? = some (.cells #[.pointer (some ⟨p, 0, none⟩)] T (0, 0))) :
    Calls Tryd.prog 44 #[.pointer (some ⟨d, 0, none⟩)] w fun e w' => e = .returned (.int .i64 (pre st).2) ∧ Step S p (pre st).1 w w' := by
  have H1 := Lib.hid (fresh_any S p st hC w h)
  have k0 : w.cell? ⟨d, 0, none⟩ = some (.pointer (some ⟨p, 0, none⟩)) := by rw [Lib.cell_of_heap hd]; rfl
  clear hd h
  go_enter Tryd.func44, Tryd.ntmps44
  go_wp2_with fail
  refine H1.out.mono ?_
  rintro e w1 ⟨rfl, s1⟩
  replace s1 := Lib.hid s1
  clear H1 k0
  go_wp2_with fail
  go_ret
  exact ⟨rfl, s1.out⟩
theorem c2_any (S : Nat → Prop) (p d b : Nat) (st : St) (s : ByteArray) (hz : Small st s.size) (w : World) (h : IsDisk w S p st) (T T' : TypeId) (hd : w.heap[d]? = some (.cells #[.pointer (some ⟨p, 0, none⟩)] T (0, 0))) (hb : w.heap[b]? = some (.cells #[.string s] T' (0, 0))) :
    Calls Tryd.prog 46 #[.pointer (some ⟨d, 0, none⟩), .pointer (some ⟨b, 0, none⟩)] w fun e w' => e = .returned (.int .i64 (appE st [110] s.data.toList)) ∧ Step S p (appS st [110] s.data.toList) w w' := by
  have H1 := Lib.hid (app_any S p st ⟨#[110]⟩ s sz_n hz.used (fun f hf => by have := hz.file f hf; omega) (by have := hz.z; omega) hz.chs w h)
  have k0 : w.cell? ⟨d, 0, none⟩ = some (.pointer (some ⟨p, 0, none⟩)) := by rw [Lib.cell_of_heap hd]; rfl
  have k1 : w.cell? ⟨b, 0, none⟩ = some (.string s) := by rw [Lib.cell_of_heap hb]; rfl
  clear hd hb h hz
  go_enter Tryd.func46, Tryd.ntmps46
  go_wp2_with fail
  refine H1.out.mono ?_
  rintro e w1 ⟨rfl, s1⟩
  replace s1 := Lib.hid s1
  clear H1 k0 k1
  go_wp2_with fail
  go_ret
  exact ⟨rfl, s1.out⟩
theorem c3_any (S : Nat → Prop) (p d : Nat) (st : St) (w : World) (h : IsDisk w S p st) (T : TypeId) (hd : w.heap[d]? = some (.cells #[.pointer (some ⟨p, 0, none⟩)] T (0, 0))) :
    Calls Tryd.prog 47 #[.pointer (some ⟨d, 0, none⟩)] w fun e w' => e = .returned (.int .i64 (syncE st [110])) ∧ Step S p (syncS st [110]) w w' := by
  have H1 := Lib.hid (sync_any S p st ⟨#[110]⟩ sz_n w h)
  have k0 : w.cell? ⟨d, 0, none⟩ = some (.pointer (some ⟨p, 0, none⟩)) := by rw [Lib.cell_of_heap hd]; rfl
  clear hd h
  go_enter Tryd.func47, Tryd.ntmps47
  go_wp2_with fail
  refine H1.out.mono ?_
  rintro e w1 ⟨rfl, s1⟩
  replace s1 := Lib.hid s1
  clear H1 k0
  go_wp2_with fail
  go_ret
  exact ⟨rfl, s1.out⟩
theorem c4_any (S : Nat → Prop) (p d : Nat) (st : St) (hC : st.C.length ≤ 1000000000) (w : World) (h : IsDisk w S p st) (T : TypeId) (hd : w.heap[d]? = some (.cells #[.pointer (some ⟨p, 0, none⟩)] T (0, 0))) :
    Calls Tryd.prog 49 #[.pointer (some ⟨d, 0, none⟩)] w fun e w' => e = .returned (.int .i64 (renE st [110] [109])) ∧ Step S p (renS st [110] [109]) w w' := by
  have H1 := Lib.hid (ren_any S p st ⟨#[110]⟩ ⟨#[109]⟩ sz_n sz_m hC w h)
  have k0 : w.cell? ⟨d, 0, none⟩ = some (.pointer (some ⟨p, 0, none⟩)) := by rw [Lib.cell_of_heap hd]; rfl
  clear hd h
  go_enter Tryd.func49, Tryd.ntmps49
  go_wp2_with fail
  refine H1.out.mono ?_
  rintro e w1 ⟨rfl, s1⟩
  replace s1 := Lib.hid s1
  clear H1 k0
  go_wp2_with fail
  go_ret
  exact ⟨rfl, s1.out⟩
/-! ### Publish -/
def pubK (s : Str) (st : St) : Nat → St × Int
  | 0 => (st, 0)
  | 1 => pre st
  | 2 => pub1 s st
  | 3 => pub2 s st
  | 4 => pub3 s st
  | _ => pub s st
/-- What Publish leaves and answers. -/
def pubA (m : M) (st : St) : St × Int := if chk m = 0 then pub (code m).data.toList st else (st, chk m)
theorem pubA_no {m : M} (h : chk m ≠ 0) (st : St) : pubA m st = (st, chk m) := if_neg h
theorem pubA_ok {m : M} (h : chk m = 0) (st : St) : pubA m st = pub (code m).data.toList st := if_pos h
theorem pubK_stop {s : Str} {st : St} : ∀ {i : Nat}, i ≤ 5 → (pubK s st i).2 ≠ 0 → pub s st = pubK s st i
  | 0, _, h => absurd rfl h
  | 1, _, h => by
    have e1 : pub1 s st = pre st := thn_no h _ _
    have e2 : pub2 s st = pre st := by unfold pub2; rw [e1]; exact thn_no h _ _
    have e3 : pub3 s st = pre st := by unfold pub3; rw [e2]; exact thn_no h _ _
    show pub s st = pre st
    unfold pub; rw [e3]; exact thn_no h _ _
  | 2, _, h => by
    have h : (pub1 s st).2 ≠ 0 := h
    have e2 : pub2 s st = pub1 s st := thn_no h _ _
    have e3 : pub3 s st = pub1 s st := by unfold pub3; rw [e2]; exact thn_no h _ _
    show pub s st = pub1 s st
    unfold pub; rw [e3]; exact thn_no h _ _
  | 3, _, h => by
    have h : (pub2 s st).2 ≠ 0 := h
    have e3 : pub3 s st = pub2 s st := thn_no h _ _
    show pub s st = pub2 s st
    unfold pub; rw [e3]; exact thn_no h _ _
  | 4, _, h => by
    have h : (pub3 s st).2 ≠ 0 := h
    show pub s st = pub3 s st
    exact thn_no h _ _
  | 5, _, h => rfl
  | n + 6, hi, _ => by omega
theorem pubK_1 (s : Str) (st : St) : pubK s st 1 = pre st := rfl
theorem pubK_2 {s : Str} {st : St} (h : (pubK s st 1).2 = 0) : pubK s st 2 = (appS (pubK s st 1).1 [110] s, appE (pubK s st 1).1 [110] s) := thn_ok (p := pre st) h (fun x => appS x nN s) (fun x => appE x nN s)
theorem pubK_3 {s : Str} {st : St} (h : (pubK s st 2).2 = 0) : pubK s st 3 = (syncS (pubK s st 2).1 [110], syncE (pubK s st 2).1 [110]) := thn_ok (p := pub1 s st) h (fun x => syncS x nN) (fun x => syncE x nN)
theorem pubK_4 {s : Str} {st : St} (h : (pubK s st 3).2 = 0) : pubK s st 4 = (renS (pubK s st 3).1 [110] [109], renE (pubK s st 3).1 [110] [109]) := thn_ok (p := pub2 s st) h (fun x => renS x nN mN) (fun x => renE x nN mN)
theorem pubK_5 {s : Str} {st : St} (h : (pubK s st 4).2 = 0) : pubK s st 5 = (snS (pubK s st 4).1, snE (pubK s st 4).1) := thn_ok (p := pub3 s st) h _ _
/-- A block of the call's own, behind steps of the disk. -/
theorem keep_at {S : Nat → Prop} {p : Nat} {st : St} {w5 wr : World} {o : Go.Obj} {b : Nat} (h : Step S p st w5 wr) (hb : ¬ S b) (hc : w5.heap[b]? = some o) : wr.heap[b]? = some o := by
  have hlt : b < w5.heap.size := by
    by_cases h : b < w5.heap.size
    · exact h
    · rw [Array.getElem?_eq_none (by omega)] at hc; cases hc
  rw [h.upon.block b hlt hb]; exact hc
theorem step_more {S : Nat → Prop} {p : Nat} {st st2 : St} {a b : World} {f : FuncId} {args : Array Value} {x : Ending} (h : Step S p st a b) (hc : ∀ S', IsDisk b S' p st → Calls Tryd.prog f args b fun e w' => e = x ∧ Step S' p st2 b w') :
    Calls Tryd.prog f args b fun e w' => e = x ∧ Step S p st2 a w' := by
  obtain ⟨⟨S', h1, h2, h3⟩, hu⟩ := h
  exact (hc S' h1).mono fun e w' ⟨he, hs⟩ => ⟨he, Been.step ⟨h2, h3, hu⟩ hs⟩
set_option maxHeartbeats 25600000 in
theorem publish_any (S : Nat → Prop) (p : Nat) (st : St) (k : Nat) (hg : Gro.Grew k st) (hk : k ≤ 900) (w : World) (h : IsDisk w S p st) (S2 : Nat → Prop) (v : Value) (m : M) (hv : MView w S2 v m) (hb : Bnd m) (hT : Crc.Tab w) :
    Calls Tryd.prog 22 #[.pointer (some ⟨p, 0, none⟩), v] w fun e w' => e = .returned (.int .i64 (pubA m st).2) ∧ Step S p (pubA m st).1 w w' ∧ Gro.Grew (k + 5) (pubA m st).1 := by
  obtain ⟨A, c, rfl, hn⟩ := hv.shape
  have hlt := h.lt
  obtain ⟨wa, hwa⟩ : ∃ wa, w.alloc (.cells #[.pointer (some ⟨p, 0, none⟩)] 45 (0, 0)) = wa := ⟨_, rfl⟩
  obtain ⟨wb, hwb⟩ : ∃ wb, wa.alloc (.cells #[.int .i64 m.epoch, .int .i64 m.base, .int .i64 m.promise, .int .i64 m.mark, .int .i64 m.check, .slice A m.blocks.length c] 26 (0, 0)) = wb := ⟨_, rfl⟩
  have sa : wa.heap.size = w.heap.size + 1 := by rw [← hwa]; simp
  have ua : New0 w wa := by rw [← hwa]; exact (Upon.refl _ w).alloc _
  have ub : New0 wa wb := by rw [← hwb]; exact (Upon.refl _ wa).alloc _
  have hda : wa.heap[w.heap.size]? = some (.cells #[.pointer (some ⟨p, 0, none⟩)] 45 (0, 0)) := by rw [← hwa]; exact cell_new w _
  have hX : Six 26 wa.heap.size ⟨.int .i64 m.epoch, .int .i64 m.base, .int .i64 m.promise, .int .i64 m.mark, .int .i64 m.check, .slice A m.blocks.length c⟩ wb := by rw [← hwb]; exact six_new _ wa ⟨.int .i64 m.epoch, .int .i64 m.base, .int .i64 m.promise, .int .i64 m.mark, .int .i64 m.check, .slice A m.blocks.length c⟩
  obtain ⟨r0, r1, r2, r3, r4, r5⟩ := hX.cells
  dsimp only at r0 r1 r2 r3 r4 r5
  rw [sa] at r0 r1 r2 r3 r4 r5
  have hdb : wb.heap[w.heap.size]? = some (.cells #[.pointer (some ⟨p, 0, none⟩)] 45 (0, 0)) := by rw [ub.block _ (by omega) (fun h => h.elim)]; exact hda
  have HE := Lib.hid (penc_any wb _ _ m ((hv.new ua).new ub) hb (hT.below (belowOf (ua.trans ub))))
  have hub := Lib.hid (ua.trans ub)
  have hbs : Hid (wb.heap.size = w.heap.size + 2) := Lib.hid (by rw [← hwb, ← hwa]; simp)
  replace hdb := Lib.hid hdb
  have hw2 := Lib.hid (show (w.alloc _).alloc _ = wb from by rw [hwa]; exact hwb)
  clear hX hda hwa hwb sa ua ub hT hv hn
  replace h := Lib.hid h
  replace hg := Lib.hid hg
  replace hlt := Lib.hid hlt
  by_cases hz : chk m = 0
  · rw [pubA_ok hz]
    have hsz := code_le (chk_zero.1 hz)
    obtain ⟨s, hs⟩ : ∃ s, code m = s := ⟨_, rfl⟩
    rw [encS_ok hz, hz] at HE
    simp only [hs] at HE hsz ⊢
    clear hs hz
    go_enter Tryd.func22, Tryd.ntmps22
    go_wp2_with fail
    rw [hw2.out]
    go_wp2_with fail
    refine HE.out.mono ?_
    rintro e w3 ⟨rfl, hu⟩
    have hub3 := hub.out.trans hu
    have hd3 := hdb.out
    rw [← hu.block _ (by rw [hbs.out]; omega) (fun h => h.elim)] at hd3
    have hs3 := hu.size
    obtain ⟨w4, hw4⟩ : ∃ w4, w3.alloc (.cells #[.string s] 9 (0, 0)) = w4 := ⟨_, rfl⟩
    have hlw : w.heap.size < w3.heap.size := by rw [hbs.out] at hs3; omega
    have u4 : New0 w3 w4 := by rw [← hw4]; exact (Upon.refl _ w3).alloc _
    have hd4 : w4.heap[w.heap.size]? = some (.cells #[.pointer (some ⟨p, 0, none⟩)] 45 (0, 0)) := by rw [u4.block _ hlw (fun h => h.elim)]; exact hd3
    have hc4 : w4.heap[w3.heap.size]? = some (.cells #[.string s] 9 (0, 0)) := by rw [← hw4]; exact cell_new w3 _
    have k3 : w3.cell? ⟨w.heap.size, 0, none⟩ = some (.pointer (some ⟨p, 0, none⟩)) := by rw [Lib.cell_of_heap hd3]; rfl
    have k0 : w4.cell? ⟨w.heap.size, 0, none⟩ = some (.pointer (some ⟨p, 0, none⟩)) := by rw [Lib.cell_of_heap hd4]; rfl
    have sz4 : w4.heap.size = w3.heap.size + 1 := by rw [← hw4]; simp
    have u04 : Hid (New0 w w4) := Lib.hid (hub3.trans u4)
    replace hd4 := Lib.hid hd4
    replace hc4 := Lib.hid hc4
    replace hw4 := Lib.hid hw4
    clear HE hu hub r0 r1 r2 r3 r4 r5 hw2 hdb hd3 u4 hub3 hs3 hbs
    go_wp2_with fail
    rw [hw4.out]
    go_wp2_with fail
    obtain ⟨w5, hw5⟩ : ∃ w5, w4.alloc (.cells #[.func (.func 44) #[] #[.pointer (some ⟨w.heap.size, 0, none⟩)], .func (.func 46) #[] #[.pointer (some ⟨w.heap.size, 0, none⟩), .pointer (some ⟨w3.heap.size, 0, none⟩)], .func (.func 47) #[] #[.pointer (some ⟨w.heap.size, 0, none⟩)], .func (.func 49) #[] #[.pointer (some ⟨w.heap.size, 0, none⟩)], .func (.func 51) #[.pointer (some ⟨p, 0, none⟩)] #[]] 90 (0, 0)) = w5 := ⟨_, rfl⟩
    rw [hw5]
    have u5 : New0 w4 w5 := by rw [← hw5]; exact (Upon.refl _ w4).alloc _
    have hr5 : w5.heap[w4.heap.size]? = some (.cells #[.func (.func 44) #[] #[.pointer (some ⟨w.heap.size, 0, none⟩)], .func (.func 46) #[] #[.pointer (some ⟨w.heap.size, 0, none⟩), .pointer (some ⟨w3.heap.size, 0, none⟩)], .func (.func 47) #[] #[.pointer (some ⟨w.heap.size, 0, none⟩)], .func (.func 49) #[] #[.pointer (some ⟨w.heap.size, 0, none⟩)], .func (.func 51) #[.pointer (some ⟨p, 0, none⟩)] #[]] 90 (0, 0)) := by rw [← hw5]; exact cell_new w4 _
    have hd5 : w5.heap[w.heap.size]? = some (.cells #[.pointer (some ⟨p, 0, none⟩)] 45 (0, 0)) := by rw [u5.block _ (by omega) (fun h => h.elim)]; exact hd4.out
    have hc5 : w5.heap[w3.heap.size]? = some (.cells #[.string s] 9 (0, 0)) := by rw [u5.block _ (by omega) (fun h => h.elim)]; exact hc4.out
    have u05 := u04.out.trans u5
    have hI := Lib.hid (Step.same (h.out.upon u05 fun _ _ h => h))
    have hend : Hid (∀ st' w', Step S p st' w5 w' → Step S p st' w w') := Lib.hid (fun st' w' hs => Step.first u05 hs)
    have hnd : ¬ S w.heap.size := fun hb => by have := hlt.out _ hb; omega
    have hns : ¬ S w3.heap.size := fun hb => by have := hlt.out _ hb; omega
    have hnr : ¬ S w4.heap.size := fun hb => by have := hlt.out _ hb; omega
    have hcell : Hid (∀ i wr, Step S p (pubK s.data.toList st i).1 w5 wr → wr.heap[w4.heap.size]? = some (.cells #[.func (.func 44) #[] #[.pointer (some ⟨w.heap.size, 0, none⟩)], .func (.func 46) #[] #[.pointer (some ⟨w.heap.size, 0, none⟩), .pointer (some ⟨w3.heap.size, 0, none⟩)], .func (.func 47) #[] #[.pointer (some ⟨w.heap.size, 0, none⟩)], .func (.func 49) #[] #[.pointer (some ⟨w.heap.size, 0, none⟩)], .func (.func 51) #[.pointer (some ⟨p, 0, none⟩)] #[]] 90 (0, 0))) := Lib.hid (fun i wr hs => keep_at hs hnr hr5)
    have C1 : Hid (∀ wr, (pubK s.data.toList st 0).2 = 0 → Gro.Grew (k + 0) (pubK s.data.toList st 0).1 → Step S p (pubK s.data.toList st 0).1 w5 wr → Gro.Grew (k + 1) (pubK s.data.toList st 1).1 ∧ Calls Tryd.prog 44 #[.pointer (some ⟨w.heap.size, 0, none⟩)] wr fun e w' => e = .returned (.int .i64 (pubK s.data.toList st 1).2) ∧ Step S p (pubK s.data.toList st 1).1 w5 w') := Lib.hid (fun wr hz hg hs => by
      have hf : Fine (pubK s.data.toList st 0).1 := let ⟨_, h1, _, _⟩ := hs.disk; h1.fine
      have hsm : Small (pubK s.data.toList st 0).1 s.size := hg.small hf (by omega) (by omega)
      rw [pubK_1 _ _]
      exact ⟨grew_pre hg, step_more hs fun S' hD => c1_any S' p _ _ (hsm.chs) wr hD _ (keep_at hs hnd hd5)⟩)
    have C2 : Hid (∀ wr, (pubK s.data.toList st 1).2 = 0 → Gro.Grew (k + 1) (pubK s.data.toList st 1).1 → Step S p (pubK s.data.toList st 1).1 w5 wr → Gro.Grew (k + 2) (pubK s.data.toList st 2).1 ∧ Calls Tryd.prog 46 #[.pointer (some ⟨w.heap.size, 0, none⟩), .pointer (some ⟨w3.heap.size, 0, none⟩)] wr fun e w' => e = .returned (.int .i64 (pubK s.data.toList st 2).2) ∧ Step S p (pubK s.data.toList st 2).1 w5 w') := Lib.hid (fun wr hz hg hs => by
      have hf : Fine (pubK s.data.toList st 1).1 := let ⟨_, h1, _, _⟩ := hs.disk; h1.fine
      have hsm : Small (pubK s.data.toList st 1).1 s.size := hg.small hf (by omega) (by omega)
      rw [pubK_2 hz]
      exact ⟨Gro.Grew.app hf hg [110] s.data.toList (by show s.size ≤ 1000; omega), step_more hs fun S' hD => c2_any S' p _ _ _ s (hsm) wr hD _ _ (keep_at hs hnd hd5) (keep_at hs hns hc5)⟩)
    have C3 : Hid (∀ wr, (pubK s.data.toList st 2).2 = 0 → Gro.Grew (k + 2) (pubK s.data.toList st 2).1 → Step S p (pubK s.data.toList st 2).1 w5 wr → Gro.Grew (k + 3) (pubK s.data.toList st 3).1 ∧ Calls Tryd.prog 47 #[.pointer (some ⟨w.heap.size, 0, none⟩)] wr fun e w' => e = .returned (.int .i64 (pubK s.data.toList st 3).2) ∧ Step S p (pubK s.data.toList st 3).1 w5 w') := Lib.hid (fun wr hz hg hs => by
      have hf : Fine (pubK s.data.toList st 2).1 := let ⟨_, h1, _, _⟩ := hs.disk; h1.fine
      have hsm : Small (pubK s.data.toList st 2).1 s.size := hg.small hf (by omega) (by omega)
      rw [pubK_3 hz]
      exact ⟨Gro.grew_sync hg [110], step_more hs fun S' hD => c3_any S' p _ _ wr hD _ (keep_at hs hnd hd5)⟩)
    have C4 : Hid (∀ wr, (pubK s.data.toList st 3).2 = 0 → Gro.Grew (k + 3) (pubK s.data.toList st 3).1 → Step S p (pubK s.data.toList st 3).1 w5 wr → Gro.Grew (k + 4) (pubK s.data.toList st 4).1 ∧ Calls Tryd.prog 49 #[.pointer (some ⟨w.heap.size, 0, none⟩)] wr fun e w' => e = .returned (.int .i64 (pubK s.data.toList st 4).2) ∧ Step S p (pubK s.data.toList st 4).1 w5 w') := Lib.hid (fun wr hz hg hs => by
      have hf : Fine (pubK s.data.toList st 3).1 := let ⟨_, h1, _, _⟩ := hs.disk; h1.fine
      have hsm : Small (pubK s.data.toList st 3).1 s.size := hg.small hf (by omega) (by omega)
      rw [pubK_4 hz]
      exact ⟨Gro.grew_ren hg [110] [109], step_more hs fun S' hD => c4_any S' p _ _ hsm.chs wr hD _ (keep_at hs hnd hd5)⟩)
    have C5 : Hid (∀ wr, (pubK s.data.toList st 4).2 = 0 → Gro.Grew (k + 4) (pubK s.data.toList st 4).1 → Step S p (pubK s.data.toList st 4).1 w5 wr → Gro.Grew (k + 5) (pubK s.data.toList st 5).1 ∧ Calls Tryd.prog 51 #[.pointer (some ⟨p, 0, none⟩)] wr fun e w' => e = .returned (.int .i64 (pubK s.data.toList st 5).2) ∧ Step S p (pubK s.data.toList st 5).1 w5 w') := Lib.hid (fun wr hz hg hs => by
      have hf : Fine (pubK s.data.toList st 4).1 := let ⟨_, h1, _, _⟩ := hs.disk; h1.fine
      have hsm : Small (pubK s.data.toList st 4).1 s.size := hg.small hf (by omega) (by omega)
      rw [pubK_5 hz]
      exact ⟨Gro.grew_sn hg, step_more hs fun S' hD => sn_any S' p _ wr hD⟩)
    clear hnd hns hnr hr5 hd5 hc5 u05 u5 hw5 hd4 hc4 hw4 u04 k0 k3 hb h hlt
    go_loopw [28] (fun ov wr => ∃ i : Nat, ov = .int .i64 (i : Int) ∧ i ≤ 5 ∧ Hid ((pubK s.data.toList st i).2 = 0) ∧ Hid (Gro.Grew (k + i) (pubK s.data.toList st i).1) ∧ Hid (Step S p (pubK s.data.toList st i).1 w5 wr)) (fun ov _ => 5 - (intOf ov).toNat)
    case atStart => exact ⟨0, rfl, by omega, Lib.hid rfl, hg, hI⟩
    case round =>
      clear hI hg
      obtain ⟨i, rfl, hi, hy, hgi, hs⟩ := hrel
      have hrow := (hcell.out i wr hs.out)
      rw [sz4] at hrow
      rcases (show i = 0 ∨ i = 1 ∨ i = 2 ∨ i = 3 ∨ i = 4 ∨ i = 5 by omega) with rfl | rfl | rfl | rfl | rfl | rfl
      · have q0 : wr.cell? ⟨w3.heap.size + 1, 0, none⟩ = some (.func (.func 44) #[] #[.pointer (some ⟨w.heap.size, 0, none⟩)]) := by rw [Lib.cell_of_heap hrow]; rfl
        obtain ⟨hg2, HC⟩ := C1.out wr hy.out hgi.out hs.out
        have hstop : Hid ((pubK s.data.toList st 1).2 ≠ 0 → pub s.data.toList st = pubK s.data.toList st 1) := Lib.hid (pubK_stop (by omega))
        replace HC := Lib.hid HC
        replace hg2 := Lib.hid hg2
        obtain ⟨X, hX⟩ : ∃ X, pubK s.data.toList st 1 = X := ⟨_, rfl⟩
        obtain ⟨E, hE⟩ : ∃ E, X.2 = E := ⟨_, rfl⟩
        simp only [hX, hE] at HC hstop hg2
        clear C1 C2 C3 C4 C5 hcell hrow hy hgi hs
        go_wp2_with fail
        refine HC.out.mono ?_
        rintro e w7 ⟨rfl, s7⟩
        replace s7 := Lib.hid s7
        clear HC q0
        by_cases hz : E = 0
        · subst hz
          clear hstop
          go_wp2_with fail
          go_roundw
          case rel => exact ⟨1, rfl, by omega, Lib.hid (by rw [hX]; exact hE), Lib.hid (by rw [hX]; exact hg2.out), Lib.hid (by rw [hX]; exact s7.out)⟩
          case measure => simp [intOf]
        · have hfin := Lib.hid (show Ending.returned (.int .i64 E) = .returned (.int .i64 (pub s.data.toList st).2) ∧ Step S p (pub s.data.toList st).1 w w7 ∧ Gro.Grew (k + 5) (pub s.data.toList st).1 from by rw [hstop.out hz, hE]; exact ⟨rfl, hend.out _ _ s7.out, hg2.out.up (by omega)⟩)
          clear hstop hg2 s7 hend
          go_wp2_with fail
          go_ret
          exact hfin.out
      · have q0 : wr.cell? ⟨w3.heap.size + 1, 1, none⟩ = some (.func (.func 46) #[] #[.pointer (some ⟨w.heap.size, 0, none⟩), .pointer (some ⟨w3.heap.size, 0, none⟩)]) := by rw [Lib.cell_of_heap hrow]; rfl
        obtain ⟨hg2, HC⟩ := C2.out wr hy.out hgi.out hs.out
        have hstop : Hid ((pubK s.data.toList st 2).2 ≠ 0 → pub s.data.toList st = pubK s.data.toList st 2) := Lib.hid (pubK_stop (by omega))
        replace HC := Lib.hid HC
        replace hg2 := Lib.hid hg2
        obtain ⟨X, hX⟩ : ∃ X, pubK s.data.toList st 2 = X := ⟨_, rfl⟩
        obtain ⟨E, hE⟩ : ∃ E, X.2 = E := ⟨_, rfl⟩
        simp only [hX, hE] at HC hstop hg2
        clear C1 C2 C3 C4 C5 hcell hrow hy hgi hs
        go_wp2_with fail
        refine HC.out.mono ?_
        rintro e w7 ⟨rfl, s7⟩
        replace s7 := Lib.hid s7
        clear HC q0
        by_cases hz : E = 0
        · subst hz
          clear hstop
          go_wp2_with fail
          go_roundw
          case rel => exact ⟨2, rfl, by omega, Lib.hid (by rw [hX]; exact hE), Lib.hid (by rw [hX]; exact hg2.out), Lib.hid (by rw [hX]; exact s7.out)⟩
          case measure => simp [intOf]
        · have hfin := Lib.hid (show Ending.returned (.int .i64 E) = .returned (.int .i64 (pub s.data.toList st).2) ∧ Step S p (pub s.data.toList st).1 w w7 ∧ Gro.Grew (k + 5) (pub s.data.toList st).1 from by rw [hstop.out hz, hE]; exact ⟨rfl, hend.out _ _ s7.out, hg2.out.up (by omega)⟩)
          clear hstop hg2 s7 hend
          go_wp2_with fail
          go_ret
          exact hfin.out
      · have q0 : wr.cell? ⟨w3.heap.size + 1, 2, none⟩ = some (.func (.func 47) #[] #[.pointer (some ⟨w.heap.size, 0, none⟩)]) := by rw [Lib.cell_of_heap hrow]; rfl
        obtain ⟨hg2, HC⟩ := C3.out wr hy.out hgi.out hs.out
        have hstop : Hid ((pubK s.data.toList st 3).2 ≠ 0 → pub s.data.toList st = pubK s.data.toList st 3) := Lib.hid (pubK_stop (by omega))
        replace HC := Lib.hid HC
        replace hg2 := Lib.hid hg2
        obtain ⟨X, hX⟩ : ∃ X, pubK s.data.toList st 3 = X := ⟨_, rfl⟩
        obtain ⟨E, hE⟩ : ∃ E, X.2 = E := ⟨_, rfl⟩
        simp only [hX, hE] at HC hstop hg2
        clear C1 C2 C3 C4 C5 hcell hrow hy hgi hs
        go_wp2_with fail
        refine HC.out.mono ?_
        rintro e w7 ⟨rfl, s7⟩
        replace s7 := Lib.hid s7
        clear HC q0
        by_cases hz : E = 0
        · subst hz
          clear hstop
          go_wp2_with fail
          go_roundw
          case rel => exact ⟨3, rfl, by omega, Lib.hid (by rw [hX]; exact hE), Lib.hid (by rw [hX]; exact hg2.out), Lib.hid (by rw [hX]; exact s7.out)⟩
          case measure => simp [intOf]
        · have hfin := Lib.hid (show Ending.returned (.int .i64 E) = .returned (.int .i64 (pub s.data.toList st).2) ∧ Step S p (pub s.data.toList st).1 w w7 ∧ Gro.Grew (k + 5) (pub s.data.toList st).1 from by rw [hstop.out hz, hE]; exact ⟨rfl, hend.out _ _ s7.out, hg2.out.up (by omega)⟩)
          clear hstop hg2 s7 hend
          go_wp2_with fail
          go_ret
          exact hfin.out
      · have q0 : wr.cell? ⟨w3.heap.size + 1, 3, none⟩ = some (.func (.func 49) #[] #[.pointer (some ⟨w.heap.size, 0, none⟩)]) := by rw [Lib.cell_of_heap hrow]; rfl
        obtain ⟨hg2, HC⟩ := C4.out wr hy.out hgi.out hs.out
        have hstop : Hid ((pubK s.data.toList st 4).2 ≠ 0 → pub s.data.toList st = pubK s.data.toList st 4) := Lib.hid (pubK_stop (by omega))
        replace HC := Lib.hid HC
        replace hg2 := Lib.hid hg2
        obtain ⟨X, hX⟩ : ∃ X, pubK s.data.toList st 4 = X := ⟨_, rfl⟩
        obtain ⟨E, hE⟩ : ∃ E, X.2 = E := ⟨_, rfl⟩
        simp only [hX, hE] at HC hstop hg2
        clear C1 C2 C3 C4 C5 hcell hrow hy hgi hs
        go_wp2_with fail
        refine HC.out.mono ?_
        rintro e w7 ⟨rfl, s7⟩
        replace s7 := Lib.hid s7
        clear HC q0
        by_cases hz : E = 0
        · subst hz
          clear hstop
          go_wp2_with fail
          go_roundw
          case rel => exact ⟨4, rfl, by omega, Lib.hid (by rw [hX]; exact hE), Lib.hid (by rw [hX]; exact hg2.out), Lib.hid (by rw [hX]; exact s7.out)⟩
          case measure => simp [intOf]
        · have hfin := Lib.hid (show Ending.returned (.int .i64 E) = .returned (.int .i64 (pub s.data.toList st).2) ∧ Step S p (pub s.data.toList st).1 w w7 ∧ Gro.Grew (k + 5) (pub s.data.toList st).1 from by rw [hstop.out hz, hE]; exact ⟨rfl, hend.out _ _ s7.out, hg2.out.up (by omega)⟩)
          clear hstop hg2 s7 hend
          go_wp2_with fail
          go_ret
          exact hfin.out
      · have q0 : wr.cell? ⟨w3.heap.size + 1, 4, none⟩ = some (.func (.func 51) #[.pointer (some ⟨p, 0, none⟩)] #[]) := by rw [Lib.cell_of_heap hrow]; rfl
        obtain ⟨hg2, HC⟩ := C5.out wr hy.out hgi.out hs.out
        have hstop : Hid ((pubK s.data.toList st 5).2 ≠ 0 → pub s.data.toList st = pubK s.data.toList st 5) := Lib.hid (pubK_stop (by omega))
        replace HC := Lib.hid HC
        replace hg2 := Lib.hid hg2
        obtain ⟨X, hX⟩ : ∃ X, pubK s.data.toList st 5 = X := ⟨_, rfl⟩
        obtain ⟨E, hE⟩ : ∃ E, X.2 = E := ⟨_, rfl⟩
        simp only [hX, hE] at HC hstop hg2
        clear C1 C2 C3 C4 C5 hcell hrow hy hgi hs
        go_wp2_with fail
        refine HC.out.mono ?_
        rintro e w7 ⟨rfl, s7⟩
        replace s7 := Lib.hid s7
        clear HC q0
        by_cases hz : E = 0
        · subst hz
          clear hstop
          go_wp2_with fail
          go_roundw
          case rel => exact ⟨5, rfl, by omega, Lib.hid (by rw [hX]; exact hE), Lib.hid (by rw [hX]; exact hg2.out), Lib.hid (by rw [hX]; exact s7.out)⟩
          case measure => simp [intOf]
        · have hfin := Lib.hid (show Ending.returned (.int .i64 E) = .returned (.int .i64 (pub s.data.toList st).2) ∧ Step S p (pub s.data.toList st).1 w w7 ∧ Gro.Grew (k + 5) (pub s.data.toList st).1 from by rw [hstop.out hz, hE]; exact ⟨rfl, hend.out _ _ s7.out, hg2.out.up (by omega)⟩)
          clear hstop hg2 s7 hend
          go_wp2_with fail
          go_ret
          exact hfin.out
      · clear C1 C2 C3 C4 C5 hcell hrow
        have hfin := Lib.hid (show Ending.returned (.int .i64 0) = .returned (.int .i64 (pub s.data.toList st).2) ∧ Step S p (pub s.data.toList st).1 w wr ∧ Gro.Grew (k + 5) (pub s.data.toList st).1 from ⟨by have e : (pub s.data.toList st).2 = 0 := hy.out; rw [e], hend.out _ _ hs.out, hgi.out⟩)
        clear hy hs hend hgi
        go_wp2_with fail
        go_ret
        exact hfin.out
  · rw [pubA_no hz]
    have hzz := hz
    replace hz := Lib.hid hz
    go_enter Tryd.func22, Tryd.ntmps22
    go_wp2_with fail
    rw [hw2.out]
    go_wp2_with fail
    refine HE.out.mono ?_
    rintro e w3 ⟨rfl, hu⟩
    have hend := Lib.hid ((((Step.same h.out).then hub.out).then hu).then ((Upon.refl _ w3).alloc (.cells #[.string (encS m)] 9 (0, 0))))
    clear HE hu hub r0 r1 r2 r3 r4 r5 hw2
    go_wp2_with fail
    go_ret
    exact ⟨rfl, hend.out, hg.out.up (by omega)⟩
end Mf
end Go.Proofs.YtjpgglajcelllaaDoor
