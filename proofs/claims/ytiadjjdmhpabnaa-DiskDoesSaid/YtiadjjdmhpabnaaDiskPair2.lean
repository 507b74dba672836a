/- The statements' own 'act' of layer 4, whatever the act. -/
import Derived.Test.YtiadjjdmhpabnaaDiskPair
namespace Go.Proofs.Ytiadjjdmhpabnaa
open Go.RowKit Go.Sort
namespace Dsk
open Go.Maps
set_option linter.unusedVariables false

set_option maxRecDepth 100000 in
set_option maxHeartbeats 3200000 in
theorem act_sn {R : Ob.Rel} (hR : Ob.Thing R) (w0 w : World) (p q : Nat) (st st' : St) (nm nt s : ByteArray) (n : Int) (kv : Value) (h : OwnDR R w0 p st q st' w) (hfit : RFit st' s.size) :
    Calls Try.prog 7 #[.pointer (some ⟨p, 0, none⟩), .pointer (some ⟨q, 0, none⟩), .agg #[.int .i64 4, .string nm, .string nt, .string s, .int .i64 n, kv]] w
      fun e w' => e = .returned (.bool (snE st == snE st')) ∧ OwnDR R w0 p (snS st) q (snS st') w' := by
  have hb := OwnDR.boxed hR h (opObj 4 nm nt s n kv)
  obtain ⟨b0, b1, b2, b3, b4, b5⟩ := box6 hb.box
  have HD := Lib.hid (hb.l hR fun S hS => sn_any S p st _ hS)
  have HR : Hid (∀ (X : World) (st2 : St), OwnDB R w0 p st2 q st' w.heap.size (opObj 4 nm nt s n kv) X → Calls Try.prog 27 #[.pointer (some ⟨q, 0, none⟩)] X fun e w' => e = .returned (.int .i64 (snE st')) ∧ OwnDB R w0 p st2 q (snS st') w.heap.size (opObj 4 nm nt s n kv) w') := Lib.hid fun X st2 hX =>
    hX.r hR fun S hS => refsn_any S q st' hfit.fine.now X hS
  clear h hfit hb
  generalize snE st = E1 at *
  generalize snE st' = E2 at *
  go_enter Try.func7, Try.ntmps7
  go_wp2_with fail
  refine HD.out.mono ?_
  rintro e w2 ⟨rfl, h2⟩
  clear HD b0 b1 b2 b3 b4 b5
  replace h2 := Lib.hid h2
  go_wp2_with fail
  refine (HR.out _ _ h2.out).mono ?_
  rintro e w3 ⟨rfl, h3⟩
  replace h3 := Lib.hid h3
  go_wp2_with fail
  go_ret
  exact ⟨rfl, Ob.Own.dropr h3.out⟩

set_option maxRecDepth 100000 in
set_option maxHeartbeats 3200000 in
theorem act_fuse {R : Ob.Rel} (hR : Ob.Thing R) (w0 w : World) (p q : Nat) (st st' : St) (nm nt s : ByteArray) (n : Int) (kv : Value) (h : OwnDR R w0 p st q st' w) (hn : -9223372036854775808 ≤ n ∧ n ≤ 9223372036854775807) :
    Calls Try.prog 7 #[.pointer (some ⟨p, 0, none⟩), .pointer (some ⟨q, 0, none⟩), .agg #[.int .i64 5, .string nm, .string nt, .string s, .int .i64 n, kv]] w
      fun e w' => e = .returned (.bool true) ∧ OwnDR R w0 p (fuse st n) q (fuse st' n) w' := by
  have hb := OwnDR.boxed hR h (opObj 5 nm nt s n kv)
  obtain ⟨b0, b1, b2, b3, b4, b5⟩ := box6 hb.box
  have HD := Lib.hid (hb.l hR fun S hS => fuse_any S p st n hn _ hS)
  have HR : Hid (∀ (X : World) (st2 : St), OwnDB R w0 p st2 q st' w.heap.size (opObj 5 nm nt s n kv) X → Calls Try.prog 29 #[.pointer (some ⟨q, 0, none⟩), .int .i64 n] X fun e w' => e = .returned (.tuple #[]) ∧ OwnDB R w0 p st2 q (fuse st' n) w.heap.size (opObj 5 nm nt s n kv) w') := Lib.hid fun X st2 hX =>
    hX.r hR fun S hS => reffuse_any S q st' n hn X hS
  clear h hb
  go_enter Try.func7, Try.ntmps7
  go_wp2_with fail
  refine HD.out.mono ?_
  rintro e w2 ⟨rfl, h2⟩
  clear HD b0 b1 b2 b3 b4 b5
  obtain ⟨-, -, -, -, c4, -⟩ := box6 h2.box
  replace h2 := Lib.hid h2
  go_wp2_with fail
  refine (HR.out _ _ h2.out).mono ?_
  rintro e w3 ⟨rfl, h3⟩
  replace h3 := Lib.hid h3
  go_wp2_with fail
  go_ret
  exact ⟨rfl, Ob.Own.dropr h3.out⟩

set_option maxRecDepth 100000 in
set_option maxHeartbeats 3200000 in
theorem act_crash {R : Ob.Rel} (hR : Ob.Thing R) (w0 w : World) (p q : Nat) (st st' : St) (nm nt s : ByteArray) (n : Int) (kv : Value) (ks : List Int) (db : Nat) (h : OwnDR R w0 p st q st' w) (hk : KeepAt w kv ks db) (hdb : ks ≠ [] → db < w0.heap.size) (hks : ks.length ≤ 200) (hz : Small st s.size) (hfit : RFit st' s.size) :
    Calls Try.prog 7 #[.pointer (some ⟨p, 0, none⟩), .pointer (some ⟨q, 0, none⟩), .agg #[.int .i64 6, .string nm, .string nt, .string s, .int .i64 n, kv]] w
      fun e w' => e = .returned (.bool true) ∧ OwnDR R w0 p (crash st ks) q (crash st' ks) w' := by
  have hb := OwnDR.boxed hR h (opObj 6 nm nt s n kv)
  obtain ⟨b0, b1, b2, b3, b4, b5⟩ := box6 hb.box
  have hz0 : Small st 0 := ⟨by have := hz.used; omega, fun f hf => by have := hz.file f hf; omega, hz.chs, by omega⟩
  have hsame : ∀ X : World, Below w0.heap.size w0 X → (ks ≠ [] → X.heap[db]? = w.heap[db]?) := fun X hX hn => (hX.block db (hdb hn)).trans (h.bel.block db (hdb hn)).symm
  have HK := Lib.hid (fun X (hX : Below w0.heap.size w0 X) => hk.kept (hsame X hX))
  have HR : Hid (∀ (X : World) (st2 : St), OwnDB R w0 p st2 q st' w.heap.size (opObj 6 nm nt s n kv) X → Calls Try.prog 30 #[.pointer (some ⟨q, 0, none⟩), kv] X fun e w' => e = .returned (.tuple #[]) ∧ OwnDB R w0 p st2 q (crash st' ks) w.heap.size (opObj 6 nm nt s n kv) w') := Lib.hid fun X st2 hX =>
    hX.r2 hR fun S hS hSb => refcrash_any S q st' ks kv db X hS hfit.fine (HK.out X hX.bel) (fun hn => ⟨Nat.lt_of_lt_of_le (hdb hn) hX.bel.size, fun hx => by have := hSb _ hx; have := hdb hn; omega⟩) (fun f hf => by have := hfit.small.file f hf; omega) hfit.small.chs
  have hkv : ∃ a c, kv = .slice a ks.length c := by obtain ⟨a, c, e, _⟩ := hk; exact ⟨a, c, e⟩
  obtain ⟨a, c, rfl⟩ := hkv
  have HKG : Hid (KeepAt ((w.alloc (opObj 6 nm nt s n (.slice a ks.length c))).alloc (.cells #[] 3 (0, 0))) (.slice a ks.length c) ks db) := Lib.hid (HK.out _ ((hb.bel.trans ((Below.refl _ _).alloc hb.bel.size _))))
  replace hb := Lib.hid hb
  replace hz0 := Lib.hid hz0
  clear h hfit hk hsame HK hz
  have b5' : ((w.alloc (opObj 6 nm nt s n (.slice a ks.length c))).alloc (.cells #[] 3 (0, 0))).cell? ⟨w.heap.size, 5, none⟩ = some (.slice a ks.length c) := (World.cell?_alloc_lt _ _ ⟨w.heap.size, 5, none⟩ (by simp)).trans b5
  have HGN : Hid (((w.alloc (opObj 6 nm nt s n (.slice a ks.length c))).alloc (.cells #[] 3 (0, 0))).heap[w.heap.size + 1]? = some (.cells #[] 3 (0, 0))) := Lib.hid (by
    have := cell_new (w.alloc (opObj 6 nm nt s n (.slice a ks.length c))) (.cells #[] 3 (0, 0))
    rw [show (w.alloc (opObj 6 nm nt s n (.slice a ks.length c))).heap.size = w.heap.size + 1 by simp] at this
    exact this)
  go_enter Try.func7, Try.ntmps7
  go_wp2_with (at_builtin; refine wpList_copy _ rfl _ _ rfl (w.heap.size + 1) HGN.out _ ks db rfl rfl HKG.out (by omega) ?_)
  intro v' db' wk hkk hup hnew
  have hua : Upon (fun _ => False) (w.alloc (opObj 6 nm nt s n (.slice a ks.length c))) wk := Upon.trans (Upon.alloc (Upon.refl _ _) _) hup
  have hcr := Lib.hid (hb.out.crash hR hua hkk (fun hn => by have := (hnew hn).1; have := (hnew hn).2; simp at *; omega) hz0.out)
  obtain ⟨va, vn, vc, rfl⟩ : ∃ a n c, v' = .slice a n c := by obtain ⟨a, c, e, _⟩ := hkk; exact ⟨a, _, c, e⟩
  clear hkk hup hnew hua HKG HGN hz0 hb b0 b1 b2 b3 b4 b5 b5'
  go_wp2_with fail
  refine hcr.out.mono ?_
  rintro e w2 ⟨rfl, h2⟩
  obtain ⟨-, -, -, -, -, c5⟩ := box6 h2.box
  replace h2 := Lib.hid h2
  clear hcr
  go_wp2_with fail
  refine (HR.out _ _ h2.out).mono ?_
  rintro e w3 ⟨rfl, h3⟩
  replace h3 := Lib.hid h3
  go_wp2_with fail
  go_ret
  exact ⟨rfl, Ob.Own.dropr h3.out⟩

set_option maxRecDepth 100000 in
set_option maxHeartbeats 3200000 in
theorem act_none {R : Ob.Rel} (hR : Ob.Thing R) (w0 w : World) (p q : Nat) (st st' : St) (K : Int) (nm nt s : ByteArray) (n : Int) (kv : Value) (h : OwnDR R w0 p st q st' w) (hK : ¬ K = 0 ∧ ¬ K = 1 ∧ ¬ K = 2 ∧ ¬ K = 3 ∧ ¬ K = 4 ∧ ¬ K = 5 ∧ ¬ K = 6) :
    Calls Try.prog 7 #[.pointer (some ⟨p, 0, none⟩), .pointer (some ⟨q, 0, none⟩), .agg #[.int .i64 K, .string nm, .string nt, .string s, .int .i64 n, kv]] w
      fun e w' => e = .returned (.bool true) ∧ OwnDR R w0 p st q st' w' := by
  have hb := OwnDR.boxed hR h (opObj K nm nt s n kv)
  obtain ⟨b0, b1, b2, b3, b4, b5⟩ := box6 hb.box
  replace hb := Lib.hid hb
  have k0 : (K == 0) = false := by simpa using hK.1
  have k1 : (K == 1) = false := by simpa using hK.2.1
  have k2 : (K == 2) = false := by simpa using hK.2.2.1
  have k3 : (K == 3) = false := by simpa using hK.2.2.2.1
  have k4 : (K == 4) = false := by simpa using hK.2.2.2.2.1
  have k5 : (K == 5) = false := by simpa using hK.2.2.2.2.2.1
  have k6 : (K == 6) = false := by simpa using hK.2.2.2.2.2.2
  clear hK h
  go_enter Try.func7, Try.ntmps7
  go_wp2_with fail
  go_ret
  exact ⟨rfl, Ob.Own.dropr hb.out⟩

/-- act, whatever the act. -/
theorem act_any {R : Ob.Rel} (hR : Ob.Thing R) (w0 w : World) (p q : Nat) (st st' : St) (K : Int) (nm nt s : ByteArray) (n : Int) (kv : Value) (ks : List Int) (db : Nat) (h : OwnDR R w0 p st q st' w) (hn : nm.size ≤ maxLen) (ht : nt.size ≤ maxLen) (hs : s.size ≤ 1000) (hi : -9223372036854775808 ≤ n ∧ n ≤ 9223372036854775807)
    (hk : KeepAt w kv ks db) (hdb : ks ≠ [] → db < w0.heap.size) (hks : ks.length ≤ 200) (hz : Small st s.size) (hfit : RFit st' s.size) :
    Calls Try.prog 7 #[.pointer (some ⟨p, 0, none⟩), .pointer (some ⟨q, 0, none⟩), .agg #[.int .i64 K, .string nm, .string nt, .string s, .int .i64 n, kv]] w
      fun e w' => e = .returned (.bool (actE K nm.data.toList nt.data.toList s.data.toList st == actE K nm.data.toList nt.data.toList s.data.toList st')) ∧
        OwnDR R w0 p (actS K nm.data.toList nt.data.toList s.data.toList n ks st) q (actS K nm.data.toList nt.data.toList s.data.toList n ks st') w' := by
  by_cases h0 : K = 0
  · subst h0; exact act_app hR w0 w p q st st' nm nt s n kv h hn ht hs hz hfit
  by_cases h1 : K = 1
  · subst h1; exact act_sync hR w0 w p q st st' nm nt s n kv h hn ht hs hz hfit
  by_cases h2 : K = 2
  · subst h2; exact act_ren hR w0 w p q st st' nm nt s n kv h hn ht hs hz hfit
  by_cases h3 : K = 3
  · subst h3; exact act_rem hR w0 w p q st st' nm nt s n kv h hn ht hs hz hfit
  by_cases h4 : K = 4
  · subst h4; exact act_sn hR w0 w p q st st' nm nt s n kv h hfit
  have e : ∀ x : St, actE K nm.data.toList nt.data.toList s.data.toList x = 0 := fun x => by unfold actE; rw [if_neg h0, if_neg h1, if_neg h2, if_neg h3, if_neg h4]
  rw [e, e]
  unfold actS
  rw [if_neg h0, if_neg h1, if_neg h2, if_neg h3, if_neg h4, if_neg h0, if_neg h1, if_neg h2, if_neg h3, if_neg h4]
  by_cases h5 : K = 5
  · subst h5; rw [if_pos rfl, if_pos rfl]; exact act_fuse hR w0 w p q st st' nm nt s n kv h hi
  by_cases h6 : K = 6
  · subst h6; rw [if_neg h5, if_pos rfl, if_neg h5, if_pos rfl]; exact act_crash hR w0 w p q st st' nm nt s n kv ks db h hk hdb hks hz hfit
  rw [if_neg h5, if_neg h6, if_neg h5, if_neg h6]
  exact act_none hR w0 w p q st st' K nm nt s n kv h ⟨h0, h1, h2, h3, h4, h5, h6⟩
/-- .. with nothing beside the two disks. -/
theorem act_any0 (w0 w : World) (p q : Nat) (st st' : St) (K : Int) (nm nt s : ByteArray) (n : Int) (kv : Value) (ks : List Int) (db : Nat) (h : OwnDD w0 p st q st' w) (hn : nm.size ≤ maxLen) (ht : nt.size ≤ maxLen) (hs : s.size ≤ 1000) (hi : -9223372036854775808 ≤ n ∧ n ≤ 9223372036854775807)
    (hk : KeepAt w kv ks db) (hdb : ks ≠ [] → db < w0.heap.size) (hks : ks.length ≤ 200) (hz : Small st s.size) (hfit : RFit st' s.size) :
    Calls Try.prog 7 #[.pointer (some ⟨p, 0, none⟩), .pointer (some ⟨q, 0, none⟩), .agg #[.int .i64 K, .string nm, .string nt, .string s, .int .i64 n, kv]] w
      fun e w' => e = .returned (.bool (actE K nm.data.toList nt.data.toList s.data.toList st == actE K nm.data.toList nt.data.toList s.data.toList st')) ∧
        OwnDD w0 p (actS K nm.data.toList nt.data.toList s.data.toList n ks st) q (actS K nm.data.toList nt.data.toList s.data.toList n ks st') w' :=
  (act_any objNil w0 w p q st st' K nm nt s n kv ks db h.to hn ht hs hi hk hdb hks hz hfit).mono fun _ _ ⟨he, ho⟩ => ⟨he, OwnDD.back ho⟩
end Dsk
end Go.Proofs.Ytiadjjdmhpabnaa
