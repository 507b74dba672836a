/- The law DiskSwaps (layer 4), walked: one file over another one: the one or the other, behind any crash. -/
import Derived.Test.YtfpphahdbhelcaaDiskOpen
set_option linter.unusedSimpArgs false
namespace Go.Proofs.Ytfpphahdbhelcaa
open Go.RowKit
namespace Dsk
open Go.Maps

/-! ### what all lasts of is as it was behind any crash -/
theorem cutAll_keeps {i : Nat} {f : FileS} (hl : f.lasts = f.s.length) : ∀ (N : Nms) (keep : List Int) (F : List FileS), F[i]? = some f → (cutAll keep N F)[i]? = some f
  | [], _, _, h => h
  | p :: r, keep, F, h => by
    unfold cutAll
    refine cutAll_keeps hl r _ _ ?_
    rw [List.getElem?_modify, h]
    by_cases e : p.2 = i
    · have hk : kept1 keep 0 = 0 := by have := kept1_le keep 0; omega
      have hc : cutF f (f.lasts + kept1 keep (f.s.length - f.lasts)) = f := by
        rw [hl, Nat.sub_self, hk, Nat.add_zero]
        unfold cutF
        rw [List.take_length]
        obtain ⟨s, l⟩ := f
        simp only at hl
        subst hl
        rfl
      simp only [e, if_true]
      exact congrArg some hc
    · simp [e]
theorem crash_keeps {st : St} {keep : List Int} {k : Str} {i : Nat} {f : FileS} (hl : lookN (crN st keep) k = some i) (hf : st.F[i]? = some f) (ha : f.lasts = f.s.length) : readE (crash st keep) k = 0 ∧ readA (crash st keep) k = f.s := by
  have hN : (crash st keep).N = crN st keep := rfl
  have hF : (crash st keep).F[i]? = some f := cutAll_keeps ha _ _ _ hf
  have hd : (crash st keep).dead = false := rfl
  unfold readE readA
  rw [hN, hl, hd]
  simp [List.getD_eq_getElem?_getD, hF]

/-! ### as plain data -/
def sw1 (a : Str) : St := appS (new 1048576) [109] a
def sw2 (a : Str) : St := syncS (sw1 a) [109]
def sw3 (a : Str) : St := snS (sw2 a)
def sw (a : Str) (left : Int) : St := { room := 1048576, dead := false, left := left, F := [⟨a, a.length⟩], N := [([109], 0)], L := [([109], 0)], C := [] }
def sx1 (a b : Str) (left : Int) : St := { room := 1048576, dead := false, left := left, F := [⟨a, a.length⟩, ⟨b, 0⟩], N := [([109], 0), ([110], 1)], L := [([109], 0)], C := [.put [110] 1] }
def sx2 (a b : Str) (left : Int) : St := { room := 1048576, dead := false, left := left, F := [⟨a, a.length⟩, ⟨b, b.length⟩], N := [([109], 0), ([110], 1)], L := [([109], 0)], C := [.put [110] 1] }
def sx3 (a b : Str) (left : Int) : St := { room := 1048576, dead := false, left := left, F := [⟨a, a.length⟩, ⟨b, b.length⟩], N := [([109], 1)], L := [([109], 0)], C := [.put [110] 1, .move [110] [109] 1] }
def sx4 (a b : Str) (left : Int) : St := { room := 1048576, dead := false, left := left, F := [⟨a, a.length⟩, ⟨b, b.length⟩], N := [([109], 1)], L := [([109], 1)], C := [] }
def off (st : St) : St := { st with dead := true }

theorem sw_first (a : Str) (h : a.length ≤ 1000) : appE (new 1048576) [109] a = 0 ∧ syncE (sw1 a) [109] = 0 ∧ snE (sw2 a) = 0 ∧ sw3 a = sw a (-1) := by
  have e1 : sw1 a = { room := 1048576, dead := false, left := -1, F := [⟨a, 0⟩], N := [([109], 0)], L := [], C := [.put [109] 0] } := by
    simp [sw1, appS, new, wrB, wrS, isName, isSign, full, used, lookN, addF, putN, delN, insN]; omega
  have e2 : sw2 a = { room := 1048576, dead := false, left := -1, F := [⟨a, a.length⟩], N := [([109], 0)], L := [], C := [.put [109] 0] } := by
    rw [sw2, e1]; simp [syncS, wrB, wrS, syncF, lookN]
  refine ⟨?_, ?_, ?_, ?_⟩
  · simp [appE, new, wrB, wrS, isName, isSign, full, used, lookN]; omega
  · rw [e1]; simp [syncE, wrB, lookN]
  · rw [e2]; simp [snE, wrB]
  · rw [sw3, e2]; simp [snS, wrB, wrS, settle, sw, appC, putN, delN, insN]

theorem st1 (a b : Str) (ha : a.length ≤ 1000) (hb : b.length ≤ 1000) (l : Int) (hl : 0 < l) : appE (sw a l) [110] b = 0 ∧ appS (sw a l) [110] b = sx1 a b (l - 1) := by
  have h0 : ¬ l = 0 := by omega
  have hd : decide ((1048576 : Int) < ((a.length + b.length : Nat) : Int)) = false := decide_eq_false (by omega)
  constructor
  · simp [appE, sw, wrB, wrS, isName, isSign, full, used, lookN, h0, hl]; omega
  · simp [appS, sw, wrB, wrS, isName, isSign, full, used, lookN, addF, putN, delN, insN, sx1, h0, hl, bytesBefore]; omega
theorem st1o (a b : Str) : appE (sw a 0) [110] b = 11 ∧ appS (sw a 0) [110] b = off (sw a 0) := by
  constructor <;> simp [appE, appS, sw, wrB, wrS, off]
theorem st2 (a b : Str) (l : Int) (hl : 0 < l) : syncE (sx1 a b l) [110] = 0 ∧ syncS (sx1 a b l) [110] = sx2 a b (l - 1) := by
  have h0 : ¬ l = 0 := by omega
  constructor <;> simp [syncE, syncS, syncF, sx1, sx2, wrB, wrS, lookN, h0, hl]
theorem st2o (a b : Str) : syncE (sx1 a b 0) [110] = 11 ∧ syncS (sx1 a b 0) [110] = off (sx1 a b 0) := by
  constructor <;> simp [syncE, syncS, sx1, wrB, wrS, off]
theorem st3 (a b : Str) (l : Int) (hl : 0 < l) : renE (sx2 a b l) [110] [109] = 0 ∧ renS (sx2 a b l) [110] [109] = sx3 a b (l - 1) := by
  have h0 : ¬ l = 0 := by omega
  constructor <;> simp [renE, renS, chg, appC, putN, delN, insN, sx2, sx3, wrB, wrS, lookN, isName, isSign, h0, hl]
theorem st3o (a b : Str) : renE (sx2 a b 0) [110] [109] = 11 ∧ renS (sx2 a b 0) [110] [109] = off (sx2 a b 0) := by
  constructor <;> simp [renE, renS, sx2, wrB, wrS, off]
theorem st4 (a b : Str) (l : Int) (hl : 0 < l) : snE (sx3 a b l) = 0 ∧ snS (sx3 a b l) = sx4 a b (l - 1) := by
  have h0 : ¬ l = 0 := by omega
  constructor <;> simp [snE, snS, settle, appC, putN, delN, insN, sx3, sx4, wrB, wrS, h0, hl, bytesBefore]
theorem st4o (a b : Str) : snE (sx3 a b 0) = 11 ∧ snS (sx3 a b 0) = off (sx3 a b 0) := by
  constructor <;> simp [snE, snS, sx3, wrB, wrS, off]

/-- What is read behind the crash. -/
theorem rd0 (a : Str) (ks : List Int) : readE (crash (off (sw a 0)) ks) [109] = 0 ∧ readA (crash (off (sw a 0)) ks) [109] = a :=
  crash_keeps (i := 0) (f := ⟨a, a.length⟩) (by simp [crN, off, sw, lookN]) rfl rfl
theorem rd1 (a b : Str) (ks : List Int) : readE (crash (off (sx1 a b 0)) ks) [109] = 0 ∧ readA (crash (off (sx1 a b 0)) ks) [109] = a := by
  refine crash_keeps (i := 0) (f := ⟨a, a.length⟩) ?_ rfl rfl
  have h := kept1_le ks 1
  have : kept1 ks 1 = 0 ∨ kept1 ks 1 = 1 := by omega
  rcases this with e | e <;> simp [crN, off, sx1, e, lookN, appC, putN, delN, insN, bytesBefore]
theorem rd2 (a b : Str) (ks : List Int) : readE (crash (off (sx2 a b 0)) ks) [109] = 0 ∧ readA (crash (off (sx2 a b 0)) ks) [109] = a := by
  refine crash_keeps (i := 0) (f := ⟨a, a.length⟩) ?_ rfl rfl
  have h := kept1_le ks 1
  have : kept1 ks 1 = 0 ∨ kept1 ks 1 = 1 := by omega
  rcases this with e | e <;> simp [crN, off, sx2, e, lookN, appC, putN, delN, insN, bytesBefore]
theorem rd3 (a b : Str) (ks : List Int) : readE (crash (off (sx3 a b 0)) ks) [109] = 0 ∧ (readA (crash (off (sx3 a b 0)) ks) [109] = a ∨ readA (crash (off (sx3 a b 0)) ks) [109] = b) := by
  have h := kept1_le ks 2
  have : kept1 ks 2 = 0 ∨ kept1 ks 2 = 1 ∨ kept1 ks 2 = 2 := by omega
  rcases this with e | e | e
  · obtain ⟨h1, h2⟩ := crash_keeps (st := off (sx3 a b 0)) (keep := ks) (k := [109]) (i := 0) (f := ⟨a, a.length⟩) (by simp [crN, off, sx3, e, lookN, appC, putN, delN, insN, bytesBefore]) rfl rfl
    exact ⟨h1, .inl h2⟩
  · obtain ⟨h1, h2⟩ := crash_keeps (st := off (sx3 a b 0)) (keep := ks) (k := [109]) (i := 0) (f := ⟨a, a.length⟩) (by simp [crN, off, sx3, e, lookN, appC, putN, delN, insN, bytesBefore]) rfl rfl
    exact ⟨h1, .inl h2⟩
  · obtain ⟨h1, h2⟩ := crash_keeps (st := off (sx3 a b 0)) (keep := ks) (k := [109]) (i := 1) (f := ⟨b, b.length⟩) (by simp [crN, off, sx3, e, lookN, appC, putN, delN, insN, bytesBefore]) rfl rfl
    exact ⟨h1, .inr h2⟩
theorem rd4 (a b : Str) (l : Int) (ks : List Int) : readE (crash (sx4 a b l) ks) [109] = 0 ∧ readA (crash (sx4 a b l) ks) [109] = b :=
  crash_keeps (i := 1) (f := ⟨b, b.length⟩) (by simp [crN, sx4, lookN]) rfl rfl

theorem sm_of {st : St} {z : Nat} (hz : z ≤ 1000) (hf : ∀ f ∈ st.F, f.s.length ≤ 1000) (hu : used st ≤ 2000) (hC : st.C.length ≤ 2) : Small st z :=
  ⟨by omega, fun f h => by have := hf f h; omega, by omega, by omega⟩

theorem back_str (b : ByteArray) : (⟨b.data.toList.toArray⟩ : ByteArray) = b := by cases b; simp

set_option maxHeartbeats 8000000 in
set_option maxRecDepth 100000 in
theorem swaps_long (W : World) (a b : ByteArray) (n : Int) (v : Value) (za : a.size ≤ 140737488351232) (zb : b.size ≤ 140737488351232) (o : IsInts v W) (hlong : 1000 < a.size ∨ 1000 < b.size ∨ ∃ x m c, v = .slice x m c ∧ 100 < m) :
    Calls Try.prog 6 #[.string a, .string b, .int .i64 n, v] W (Yes W) := by
  obtain ⟨ks, db, ⟨x, c, rfl, h1, h2, _⟩, _⟩ := o
  unfold maxLen at h2
  by_cases ha : 1000 < a.size
  · have hd : decide (1000 < (a.size : Int)) = true := decide_eq_true (by omega)
    go_enter Try.func6, Try.ntmps6
    go_wp2_with fail
    refine (works_true W).mono ?_
    rintro e w0 ⟨rfl, hb0⟩
    replace hb0 := Lib.hid hb0
    go_wp2
    go_ret
    exact ⟨rfl, hb0.out⟩
  · have hd : decide (1000 < (a.size : Int)) = false := decide_eq_false (by omega)
    by_cases hb : 1000 < b.size
    · have hd2 : decide (1000 < (b.size : Int)) = true := decide_eq_true (by omega)
      go_enter Try.func6, Try.ntmps6
      go_wp2_with fail
      refine (works_true W).mono ?_
      rintro e w0 ⟨rfl, hb0⟩
      replace hb0 := Lib.hid hb0
      go_wp2
      go_ret
      exact ⟨rfl, hb0.out⟩
    · have hd2 : decide (1000 < (b.size : Int)) = false := decide_eq_false (by omega)
      have hk : 100 < ks.length := by
        rcases hlong with h | h | ⟨x', m, c', e, h⟩
        · exact absurd h ha
        · exact absurd h hb
        · cases e; exact h
      have hd3 : decide (100 < (ks.length : Int)) = true := decide_eq_true (by omega)
      go_enter Try.func6, Try.ntmps6
      go_wp2_with fail
      refine (works_true W).mono ?_
      rintro e w0 ⟨rfl, hb0⟩
      replace hb0 := Lib.hid hb0
      go_wp2
      go_ret
      exact ⟨rfl, hb0.out⟩

set_option maxHeartbeats 8000000 in
set_option maxRecDepth 100000 in
theorem swaps_0 (W : World) (a b : ByteArray) (n : Int) (v : Value) (ks : List Int) (db : Nat) (ha : a.size ≤ 1000) (hb : b.size ≤ 1000) (hk : KeepAt W v ks db) (hdb : ks ≠ [] → db < W.heap.size) (hks : ks.length ≤ 100) (hn : n % 18446744073709551616 % 6 = 0) :
    Calls Try.prog 6 #[.string a, .string b, .int .i64 n, v] W (Yes W) := by
  obtain ⟨x, c, rfl, h1, h2, h3⟩ := hk
  have HK := Lib.hid (show KeepAt W (.slice x ks.length c) ks db from ⟨x, c, rfl, h1, h2, h3⟩)
  have HDB := Lib.hid hdb
  clear h1 h3 hdb
  unfold maxLen at h2
  have hd1 : decide (1000 < (a.size : Int)) = false := decide_eq_false (by omega)
  have hd2 : decide (1000 < (b.size : Int)) = false := decide_eq_false (by omega)
  have hd3 : decide (100 < (ks.length : Int)) = false := decide_eq_false (by omega)
  have hu64 : IntKind.u64.wrap n = n % 18446744073709551616 := by rw [IntKind.wrap_u64]
  have hnn : 0 ≤ n % 18446744073709551616 := Int.emod_nonneg _ (by decide)
  have HN := Lib.hid hn
  obtain ⟨A, hA⟩ : ∃ A, A = a.data.toList := ⟨_, rfl⟩
  obtain ⟨B, hB⟩ : ∃ B, B = b.data.toList := ⟨_, rfl⟩
  have hAl : A.length ≤ 1000 := by rw [hA]; simpa using ha
  have hBl : B.length ≤ 1000 := by rw [hB]; simpa using hb
  have HA := Lib.hid hA
  have HBB := Lib.hid hB
  obtain ⟨s1, s2, s3, s4⟩ := sw_first A hAl
  have S1 := Lib.hid s1
  have S2 := Lib.hid s2
  have S3 := Lib.hid s3
  have S4 := Lib.hid s4
  have sz : ∀ n : UInt8, (⟨#[n]⟩ : ByteArray).size ≤ maxLen := fun n => by unfold maxLen; simp [ByteArray.size]
  replace sz := Lib.hid sz
  clear hn hA hB s1 s2 s3 s4
  go_enter Try.func6, Try.ntmps6
  go_wp2_with fail
  refine (works_true W).mono ?_
  rintro e w0 ⟨rfl, hb0⟩
  replace hb0 := Lib.hid hb0
  go_wp2_with fail
  refine (new_any 1048576 ⟨by omega, by omega⟩ w0).mono ?_
  intro e w1 hm
  obtain ⟨p, rfl, h0⟩ := Own.made hb0.out hm
  have hap := h0.append ⟨#[109]⟩ a (sz.out _) (sm_of ha (by simp [new]) (by simp [used, new]) (by simp [new]))
  rw [← HA.out, show (⟨#[109]⟩ : ByteArray).data.toList = [109] from rfl, S1.out] at hap
  replace hap := Lib.hid hap
  clear h0 hm hb0
  go_wp2_with fail
  refine hap.out.mono ?_
  rintro e w2 ⟨rfl, h2'⟩
  have hsy := (show Own W p (sw1 A) w2 from h2').sync ⟨#[109]⟩ (sz.out _)
  rw [show (⟨#[109]⟩ : ByteArray).data.toList = [109] from rfl, S2.out] at hsy
  replace hsy := Lib.hid hsy
  clear h2' hap
  go_wp2_with fail
  refine hsy.out.mono ?_
  rintro e w3 ⟨rfl, h3'⟩
  have hsn := (show Own W p (sw2 A) w3 from h3').syncNames
  rw [S3.out, show snS (sw2 A) = sw3 A from rfl, S4.out] at hsn
  replace hsn := Lib.hid hsn
  clear h3' hsy
  go_wp2_with fail
  refine hsn.out.mono ?_
  rintro e w4 ⟨rfl, h4'⟩
  replace h4' := Lib.hid h4'
  clear hsn
  go_wp2_with fail
  rw [HN.out]
  refine (h4'.out.fuse 0 (by omega)).mono ?_
  rintro e w5 ⟨rfl, h5⟩
  replace h5 := Lib.hid (show Own W p (sw A 0) w5 from h5)
  clear h4' hu64 hnn HN
  have hc := h5.out.append ⟨#[110]⟩ b (sz.out _) (sm_of hb (by simp [sw, hAl]) (by simp [used, sw, List.getD_eq_getElem?_getD]; omega) (by simp [sw]))
  rw [← HBB.out, show (⟨#[110]⟩ : ByteArray).data.toList = [110] from rfl] at hc
  obtain ⟨e1, e2⟩ := st1o A B
  rw [e1, e2] at hc
  replace hc := Lib.hid hc
  clear e1 e2 h5
  go_wp2_with fail
  refine hc.out.mono ?_
  rintro e w6 ⟨rfl, h6⟩
  replace h6 := Lib.hid (show Own W p (off (sw A 0)) w6 from h6)
  clear hc
  have hkg : KeepAt (w6.alloc (.cells #[] 3 (0, 0))) (.slice x ks.length c) ks db := HK.out.kept fun hn => (Below.heap_alloc _ _ _ (Nat.lt_of_lt_of_le (HDB.out hn) h6.out.below.size)).trans (h6.out.below.block db (HDB.out hn))
  have HKG := Lib.hid hkg
  clear hkg
  go_wp2_with (at_builtin; refine wpList_copy _ rfl _ _ rfl w6.heap.size (cell_new w6 _) _ ks db rfl rfl HKG.out (by omega) ?_)
  intro v' db' wk hkk hup hnew
  have hcr := h6.out.crash (Upon.trans (Upon.alloc (Upon.refl _ _) _) hup) hkk (fun hn => by have := (hnew hn).1; have := (hnew hn).2; simp at *; omega) (sm_of (Nat.zero_le _) (by simp [off, sw, sx1, sx2, sx3, sx4, hAl, hBl]) (by simp [used, off, sw, sx1, sx2, sx3, sx4, List.getD_eq_getElem?_getD]; omega) (by simp [off, sw, sx1, sx2, sx3, sx4]))
  replace hcr := Lib.hid hcr
  obtain ⟨va, vn, vc, rfl⟩ : ∃ a n c, v' = .slice a n c := by obtain ⟨a, c, e, _⟩ := hkk; exact ⟨a, _, c, e⟩
  clear hkk hup hnew h6
  go_wp2_with fail
  refine hcr.out.mono ?_
  rintro e wc ⟨rfl, hce⟩
  obtain ⟨r1, r2⟩ := rd0 A ks
  have hrd := hce.read ⟨#[109]⟩ (sz.out _)
  rw [show (⟨#[109]⟩ : ByteArray).data.toList = [109] from rfl, r1] at hrd
  clear hce hcr r1
  rw [r2, HA.out, back_str] at hrd
  replace hrd := Lib.hid hrd
  clear r2
  go_wp2_with fail
  refine hrd.out.mono ?_
  rintro e wd ⟨rfl, hd⟩
  replace hd := Lib.hid hd
  go_wp2
  all_goals (go_ret; exact ⟨rfl, hd.out.below⟩)

set_option maxHeartbeats 8000000 in
set_option maxRecDepth 100000 in
theorem swaps_1 (W : World) (a b : ByteArray) (n : Int) (v : Value) (ks : List Int) (db : Nat) (ha : a.size ≤ 1000) (hb : b.size ≤ 1000) (hk : KeepAt W v ks db) (hdb : ks ≠ [] → db < W.heap.size) (hks : ks.length ≤ 100) (hn : n % 18446744073709551616 % 6 = 1) :
    Calls Try.prog 6 #[.string a, .string b, .int .i64 n, v] W (Yes W) := by
  obtain ⟨x, c, rfl, h1, h2, h3⟩ := hk
  have HK := Lib.hid (show KeepAt W (.slice x ks.length c) ks db from ⟨x, c, rfl, h1, h2, h3⟩)
  have HDB := Lib.hid hdb
  clear h1 h3 hdb
  unfold maxLen at h2
  have hd1 : decide (1000 < (a.size : Int)) = false := decide_eq_false (by omega)
  have hd2 : decide (1000 < (b.size : Int)) = false := decide_eq_false (by omega)
  have hd3 : decide (100 < (ks.length : Int)) = false := decide_eq_false (by omega)
  have hu64 : IntKind.u64.wrap n = n % 18446744073709551616 := by rw [IntKind.wrap_u64]
  have hnn : 0 ≤ n % 18446744073709551616 := Int.emod_nonneg _ (by decide)
  have HN := Lib.hid hn
  obtain ⟨A, hA⟩ : ∃ A, A = a.data.toList := ⟨_, rfl⟩
  obtain ⟨B, hB⟩ : ∃ B, B = b.data.toList := ⟨_, rfl⟩
  have hAl : A.length ≤ 1000 := by rw [hA]; simpa using ha
  have hBl : B.length ≤ 1000 := by rw [hB]; simpa using hb
  have HA := Lib.hid hA
  have HBB := Lib.hid hB
  obtain ⟨s1, s2, s3, s4⟩ := sw_first A hAl
  have S1 := Lib.hid s1
  have S2 := Lib.hid s2
  have S3 := Lib.hid s3
  have S4 := Lib.hid s4
  have sz : ∀ n : UInt8, (⟨#[n]⟩ : ByteArray).size ≤ maxLen := fun n => by unfold maxLen; simp [ByteArray.size]
  replace sz := Lib.hid sz
  clear hn hA hB s1 s2 s3 s4
  go_enter Try.func6, Try.ntmps6
  go_wp2_with fail
  refine (works_true W).mono ?_
  rintro e w0 ⟨rfl, hb0⟩
  replace hb0 := Lib.hid hb0
  go_wp2_with fail
  refine (new_any 1048576 ⟨by omega, by omega⟩ w0).mono ?_
  intro e w1 hm
  obtain ⟨p, rfl, h0⟩ := Own.made hb0.out hm
  have hap := h0.append ⟨#[109]⟩ a (sz.out _) (sm_of ha (by simp [new]) (by simp [used, new]) (by simp [new]))
  rw [← HA.out, show (⟨#[109]⟩ : ByteArray).data.toList = [109] from rfl, S1.out] at hap
  replace hap := Lib.hid hap
  clear h0 hm hb0
  go_wp2_with fail
  refine hap.out.mono ?_
  rintro e w2 ⟨rfl, h2'⟩
  have hsy := (show Own W p (sw1 A) w2 from h2').sync ⟨#[109]⟩ (sz.out _)
  rw [show (⟨#[109]⟩ : ByteArray).data.toList = [109] from rfl, S2.out] at hsy
  replace hsy := Lib.hid hsy
  clear h2' hap
  go_wp2_with fail
  refine hsy.out.mono ?_
  rintro e w3 ⟨rfl, h3'⟩
  have hsn := (show Own W p (sw2 A) w3 from h3').syncNames
  rw [S3.out, show snS (sw2 A) = sw3 A from rfl, S4.out] at hsn
  replace hsn := Lib.hid hsn
  clear h3' hsy
  go_wp2_with fail
  refine hsn.out.mono ?_
  rintro e w4 ⟨rfl, h4'⟩
  replace h4' := Lib.hid h4'
  clear hsn
  go_wp2_with fail
  rw [HN.out]
  refine (h4'.out.fuse 1 (by omega)).mono ?_
  rintro e w5 ⟨rfl, h5⟩
  replace h5 := Lib.hid (show Own W p (sw A 1) w5 from h5)
  clear h4' hu64 hnn HN
  have hc := h5.out.append ⟨#[110]⟩ b (sz.out _) (sm_of hb (by simp [sw, hAl]) (by simp [used, sw, List.getD_eq_getElem?_getD]; omega) (by simp [sw]))
  rw [← HBB.out, show (⟨#[110]⟩ : ByteArray).data.toList = [110] from rfl] at hc
  obtain ⟨e1, e2⟩ := st1 A B hAl hBl 1 (by omega)
  rw [e1, e2] at hc
  replace hc := Lib.hid hc
  clear e1 e2 h5
  go_wp2_with fail
  refine hc.out.mono ?_
  rintro e w6 ⟨rfl, h6⟩
  replace h6 := Lib.hid (show Own W p (sx1 A B 0) w6 from h6)
  clear hc
  have hc := h6.out.sync ⟨#[110]⟩ (sz.out _)
  rw [show (⟨#[110]⟩ : ByteArray).data.toList = [110] from rfl] at hc
  obtain ⟨e1, e2⟩ := st2o A B
  rw [e1, e2] at hc
  replace hc := Lib.hid hc
  clear e1 e2 h6
  go_wp2_with fail
  refine hc.out.mono ?_
  rintro e w7 ⟨rfl, h7⟩
  replace h7 := Lib.hid (show Own W p (off (sx1 A B 0)) w7 from h7)
  clear hc
  have hkg : KeepAt (w7.alloc (.cells #[] 3 (0, 0))) (.slice x ks.length c) ks db := HK.out.kept fun hn => (Below.heap_alloc _ _ _ (Nat.lt_of_lt_of_le (HDB.out hn) h7.out.below.size)).trans (h7.out.below.block db (HDB.out hn))
  have HKG := Lib.hid hkg
  clear hkg
  go_wp2_with (at_builtin; refine wpList_copy _ rfl _ _ rfl w7.heap.size (cell_new w7 _) _ ks db rfl rfl HKG.out (by omega) ?_)
  intro v' db' wk hkk hup hnew
  have hcr := h7.out.crash (Upon.trans (Upon.alloc (Upon.refl _ _) _) hup) hkk (fun hn => by have := (hnew hn).1; have := (hnew hn).2; simp at *; omega) (sm_of (Nat.zero_le _) (by simp [off, sw, sx1, sx2, sx3, sx4, hAl, hBl]) (by simp [used, off, sw, sx1, sx2, sx3, sx4, List.getD_eq_getElem?_getD]; omega) (by simp [off, sw, sx1, sx2, sx3, sx4]))
  replace hcr := Lib.hid hcr
  obtain ⟨va, vn, vc, rfl⟩ : ∃ a n c, v' = .slice a n c := by obtain ⟨a, c, e, _⟩ := hkk; exact ⟨a, _, c, e⟩
  clear hkk hup hnew h7
  go_wp2_with fail
  refine hcr.out.mono ?_
  rintro e wc ⟨rfl, hce⟩
  obtain ⟨r1, r2⟩ := rd1 A B ks
  have hrd := hce.read ⟨#[109]⟩ (sz.out _)
  rw [show (⟨#[109]⟩ : ByteArray).data.toList = [109] from rfl, r1] at hrd
  clear hce hcr r1
  rw [r2, HA.out, back_str] at hrd
  replace hrd := Lib.hid hrd
  clear r2
  go_wp2_with fail
  refine hrd.out.mono ?_
  rintro e wd ⟨rfl, hd⟩
  replace hd := Lib.hid hd
  go_wp2
  all_goals (go_ret; exact ⟨rfl, hd.out.below⟩)

set_option maxHeartbeats 8000000 in
set_option maxRecDepth 100000 in
theorem swaps_2 (W : World) (a b : ByteArray) (n : Int) (v : Value) (ks : List Int) (db : Nat) (ha : a.size ≤ 1000) (hb : b.size ≤ 1000) (hk : KeepAt W v ks db) (hdb : ks ≠ [] → db < W.heap.size) (hks : ks.length ≤ 100) (hn : n % 18446744073709551616 % 6 = 2) :
    Calls Try.prog 6 #[.string a, .string b, .int .i64 n, v] W (Yes W) := by
  obtain ⟨x, c, rfl, h1, h2, h3⟩ := hk
  have HK := Lib.hid (show KeepAt W (.slice x ks.length c) ks db from ⟨x, c, rfl, h1, h2, h3⟩)
  have HDB := Lib.hid hdb
  clear h1 h3 hdb
  unfold maxLen at h2
  have hd1 : decide (1000 < (a.size : Int)) = false := decide_eq_false (by omega)
  have hd2 : decide (1000 < (b.size : Int)) = false := decide_eq_false (by omega)
  have hd3 : decide (100 < (ks.length : Int)) = false := decide_eq_false (by omega)
  have hu64 : IntKind.u64.wrap n = n % 18446744073709551616 := by rw [IntKind.wrap_u64]
  have hnn : 0 ≤ n % 18446744073709551616 := Int.emod_nonneg _ (by decide)
  have HN := Lib.hid hn
  obtain ⟨A, hA⟩ : ∃ A, A = a.data.toList := ⟨_, rfl⟩
  obtain ⟨B, hB⟩ : ∃ B, B = b.data.toList := ⟨_, rfl⟩
  have hAl : A.length ≤ 1000 := by rw [hA]; simpa using ha
  have hBl : B.length ≤ 1000 := by rw [hB]; simpa using hb
  have HA := Lib.hid hA
  have HBB := Lib.hid hB
  obtain ⟨s1, s2, s3, s4⟩ := sw_first A hAl
  have S1 := Lib.hid s1
  have S2 := Lib.hid s2
  have S3 := Lib.hid s3
  have S4 := Lib.hid s4
  have sz : ∀ n : UInt8, (⟨#[n]⟩ : ByteArray).size ≤ maxLen := fun n => by unfold maxLen; simp [ByteArray.size]
  replace sz := Lib.hid sz
  clear hn hA hB s1 s2 s3 s4
  go_enter Try.func6, Try.ntmps6
  go_wp2_with fail
  refine (works_true W).mono ?_
  rintro e w0 ⟨rfl, hb0⟩
  replace hb0 := Lib.hid hb0
  go_wp2_with fail
  refine (new_any 1048576 ⟨by omega, by omega⟩ w0).mono ?_
  intro e w1 hm
  obtain ⟨p, rfl, h0⟩ := Own.made hb0.out hm
  have hap := h0.append ⟨#[109]⟩ a (sz.out _) (sm_of ha (by simp [new]) (by simp [used, new]) (by simp [new]))
  rw [← HA.out, show (⟨#[109]⟩ : ByteArray).data.toList = [109] from rfl, S1.out] at hap
  replace hap := Lib.hid hap
  clear h0 hm hb0
  go_wp2_with fail
  refine hap.out.mono ?_
  rintro e w2 ⟨rfl, h2'⟩
  have hsy := (show Own W p (sw1 A) w2 from h2').sync ⟨#[109]⟩ (sz.out _)
  rw [show (⟨#[109]⟩ : ByteArray).data.toList = [109] from rfl, S2.out] at hsy
  replace hsy := Lib.hid hsy
  clear h2' hap
  go_wp2_with fail
  refine hsy.out.mono ?_
  rintro e w3 ⟨rfl, h3'⟩
  have hsn := (show Own W p (sw2 A) w3 from h3').syncNames
  rw [S3.out, show snS (sw2 A) = sw3 A from rfl, S4.out] at hsn
  replace hsn := Lib.hid hsn
  clear h3' hsy
  go_wp2_with fail
  refine hsn.out.mono ?_
  rintro e w4 ⟨rfl, h4'⟩
  replace h4' := Lib.hid h4'
  clear hsn
  go_wp2_with fail
  rw [HN.out]
  refine (h4'.out.fuse 2 (by omega)).mono ?_
  rintro e w5 ⟨rfl, h5⟩
  replace h5 := Lib.hid (show Own W p (sw A 2) w5 from h5)
  clear h4' hu64 hnn HN
  have hc := h5.out.append ⟨#[110]⟩ b (sz.out _) (sm_of hb (by simp [sw, hAl]) (by simp [used, sw, List.getD_eq_getElem?_getD]; omega) (by simp [sw]))
  rw [← HBB.out, show (⟨#[110]⟩ : ByteArray).data.toList = [110] from rfl] at hc
  obtain ⟨e1, e2⟩ := st1 A B hAl hBl 2 (by omega)
  rw [e1, e2] at hc
  replace hc := Lib.hid hc
  clear e1 e2 h5
  go_wp2_with fail
  refine hc.out.mono ?_
  rintro e w6 ⟨rfl, h6⟩
  replace h6 := Lib.hid (show Own W p (sx1 A B 1) w6 from h6)
  clear hc
  have hc := h6.out.sync ⟨#[110]⟩ (sz.out _)
  rw [show (⟨#[110]⟩ : ByteArray).data.toList = [110] from rfl] at hc
  obtain ⟨e1, e2⟩ := st2 A B 1 (by omega)
  rw [e1, e2] at hc
  replace hc := Lib.hid hc
  clear e1 e2 h6
  go_wp2_with fail
  refine hc.out.mono ?_
  rintro e w7 ⟨rfl, h7⟩
  replace h7 := Lib.hid (show Own W p (sx2 A B 0) w7 from h7)
  clear hc
  have hc := h7.out.rename ⟨#[110]⟩ ⟨#[109]⟩ (sz.out _) (sz.out _) (by simp [sx2])
  rw [show (⟨#[110]⟩ : ByteArray).data.toList = [110] from rfl, show (⟨#[109]⟩ : ByteArray).data.toList = [109] from rfl] at hc
  obtain ⟨e1, e2⟩ := st3o A B
  rw [e1, e2] at hc
  replace hc := Lib.hid hc
  clear e1 e2 h7
  go_wp2_with fail
  refine hc.out.mono ?_
  rintro e w8 ⟨rfl, h8⟩
  replace h8 := Lib.hid (show Own W p (off (sx2 A B 0)) w8 from h8)
  clear hc
  have hkg : KeepAt (w8.alloc (.cells #[] 3 (0, 0))) (.slice x ks.length c) ks db := HK.out.kept fun hn => (Below.heap_alloc _ _ _ (Nat.lt_of_lt_of_le (HDB.out hn) h8.out.below.size)).trans (h8.out.below.block db (HDB.out hn))
  have HKG := Lib.hid hkg
  clear hkg
  go_wp2_with (at_builtin; refine wpList_copy _ rfl _ _ rfl w8.heap.size (cell_new w8 _) _ ks db rfl rfl HKG.out (by omega) ?_)
  intro v' db' wk hkk hup hnew
  have hcr := h8.out.crash (Upon.trans (Upon.alloc (Upon.refl _ _) _) hup) hkk (fun hn => by have := (hnew hn).1; have := (hnew hn).2; simp at *; omega) (sm_of (Nat.zero_le _) (by simp [off, sw, sx1, sx2, sx3, sx4, hAl, hBl]) (by simp [used, off, sw, sx1, sx2, sx3, sx4, List.getD_eq_getElem?_getD]; omega) (by simp [off, sw, sx1, sx2, sx3, sx4]))
  replace hcr := Lib.hid hcr
  obtain ⟨va, vn, vc, rfl⟩ : ∃ a n c, v' = .slice a n c := by obtain ⟨a, c, e, _⟩ := hkk; exact ⟨a, _, c, e⟩
  clear hkk hup hnew h8
  go_wp2_with fail
  refine hcr.out.mono ?_
  rintro e wc ⟨rfl, hce⟩
  obtain ⟨r1, r2⟩ := rd2 A B ks
  have hrd := hce.read ⟨#[109]⟩ (sz.out _)
  rw [show (⟨#[109]⟩ : ByteArray).data.toList = [109] from rfl, r1] at hrd
  clear hce hcr r1
  rw [r2, HA.out, back_str] at hrd
  replace hrd := Lib.hid hrd
  clear r2
  go_wp2_with fail
  refine hrd.out.mono ?_
  rintro e wd ⟨rfl, hd⟩
  replace hd := Lib.hid hd
  go_wp2
  all_goals (go_ret; exact ⟨rfl, hd.out.below⟩)

set_option maxHeartbeats 8000000 in
set_option maxRecDepth 100000 in
theorem swaps_3 (W : World) (a b : ByteArray) (n : Int) (v : Value) (ks : List Int) (db : Nat) (ha : a.size ≤ 1000) (hb : b.size ≤ 1000) (hk : KeepAt W v ks db) (hdb : ks ≠ [] → db < W.heap.size) (hks : ks.length ≤ 100) (hn : n % 18446744073709551616 % 6 = 3) :
    Calls Try.prog 6 #[.string a, .string b, .int .i64 n, v] W (Yes W) := by
  obtain ⟨x, c, rfl, h1, h2, h3⟩ := hk
  have HK := Lib.hid (show KeepAt W (.slice x ks.length c) ks db from ⟨x, c, rfl, h1, h2, h3⟩)
  have HDB := Lib.hid hdb
  clear h1 h3 hdb
  unfold maxLen at h2
  have hd1 : decide (1000 < (a.size : Int)) = false := decide_eq_false (by omega)
  have hd2 : decide (1000 < (b.size : Int)) = false := decide_eq_false (by omega)
  have hd3 : decide (100 < (ks.length : Int)) = false := decide_eq_false (by omega)
  have hu64 : IntKind.u64.wrap n = n % 18446744073709551616 := by rw [IntKind.wrap_u64]
  have hnn : 0 ≤ n % 18446744073709551616 := Int.emod_nonneg _ (by decide)
  have HN := Lib.hid hn
  obtain ⟨A, hA⟩ : ∃ A, A = a.data.toList := ⟨_, rfl⟩
  obtain ⟨B, hB⟩ : ∃ B, B = b.data.toList := ⟨_, rfl⟩
  have hAl : A.length ≤ 1000 := by rw [hA]; simpa using ha
  have hBl : B.length ≤ 1000 := by rw [hB]; simpa using hb
  have HA := Lib.hid hA
  have HBB := Lib.hid hB
  obtain ⟨s1, s2, s3, s4⟩ := sw_first A hAl
  have S1 := Lib.hid s1
  have S2 := Lib.hid s2
  have S3 := Lib.hid s3
  have S4 := Lib.hid s4
  have sz : ∀ n : UInt8, (⟨#[n]⟩ : ByteArray).size ≤ maxLen := fun n => by unfold maxLen; simp [ByteArray.size]
  replace sz := Lib.hid sz
  clear hn hA hB s1 s2 s3 s4
  go_enter Try.func6, Try.ntmps6
  go_wp2_with fail
  refine (works_true W).mono ?_
  rintro e w0 ⟨rfl, hb0⟩
  replace hb0 := Lib.hid hb0
  go_wp2_with fail
  refine (new_any 1048576 ⟨by omega, by omega⟩ w0).mono ?_
  intro e w1 hm
  obtain ⟨p, rfl, h0⟩ := Own.made hb0.out hm
  have hap := h0.append ⟨#[109]⟩ a (sz.out _) (sm_of ha (by simp [new]) (by simp [used, new]) (by simp [new]))
  rw [← HA.out, show (⟨#[109]⟩ : ByteArray).data.toList = [109] from rfl, S1.out] at hap
  replace hap := Lib.hid hap
  clear h0 hm hb0
  go_wp2_with fail
  refine hap.out.mono ?_
  rintro e w2 ⟨rfl, h2'⟩
  have hsy := (show Own W p (sw1 A) w2 from h2').sync ⟨#[109]⟩ (sz.out _)
  rw [show (⟨#[109]⟩ : ByteArray).data.toList = [109] from rfl, S2.out] at hsy
  replace hsy := Lib.hid hsy
  clear h2' hap
  go_wp2_with fail
  refine hsy.out.mono ?_
  rintro e w3 ⟨rfl, h3'⟩
  have hsn := (show Own W p (sw2 A) w3 from h3').syncNames
  rw [S3.out, show snS (sw2 A) = sw3 A from rfl, S4.out] at hsn
  replace hsn := Lib.hid hsn
  clear h3' hsy
  go_wp2_with fail
  refine hsn.out.mono ?_
  rintro e w4 ⟨rfl, h4'⟩
  replace h4' := Lib.hid h4'
  clear hsn
  go_wp2_with fail
  rw [HN.out]
  refine (h4'.out.fuse 3 (by omega)).mono ?_
  rintro e w5 ⟨rfl, h5⟩
  replace h5 := Lib.hid (show Own W p (sw A 3) w5 from h5)
  clear h4' hu64 hnn HN
  have hc := h5.out.append ⟨#[110]⟩ b (sz.out _) (sm_of hb (by simp [sw, hAl]) (by simp [used, sw, List.getD_eq_getElem?_getD]; omega) (by simp [sw]))
  rw [← HBB.out, show (⟨#[110]⟩ : ByteArray).data.toList = [110] from rfl] at hc
  obtain ⟨e1, e2⟩ := st1 A B hAl hBl 3 (by omega)
  rw [e1, e2] at hc
  replace hc := Lib.hid hc
  clear e1 e2 h5
  go_wp2_with fail
  refine hc.out.mono ?_
  rintro e w6 ⟨rfl, h6⟩
  replace h6 := Lib.hid (show Own W p (sx1 A B 2) w6 from h6)
  clear hc
  have hc := h6.out.sync ⟨#[110]⟩ (sz.out _)
  rw [show (⟨#[110]⟩ : ByteArray).data.toList = [110] from rfl] at hc
  obtain ⟨e1, e2⟩ := st2 A B 2 (by omega)
  rw [e1, e2] at hc
  replace hc := Lib.hid hc
  clear e1 e2 h6
  go_wp2_with fail
  refine hc.out.mono ?_
  rintro e w7 ⟨rfl, h7⟩
  replace h7 := Lib.hid (show Own W p (sx2 A B 1) w7 from h7)
  clear hc
  have hc := h7.out.rename ⟨#[110]⟩ ⟨#[109]⟩ (sz.out _) (sz.out _) (by simp [sx2])
  rw [show (⟨#[110]⟩ : ByteArray).data.toList = [110] from rfl, show (⟨#[109]⟩ : ByteArray).data.toList = [109] from rfl] at hc
  obtain ⟨e1, e2⟩ := st3 A B 1 (by omega)
  rw [e1, e2] at hc
  replace hc := Lib.hid hc
  clear e1 e2 h7
  go_wp2_with fail
  refine hc.out.mono ?_
  rintro e w8 ⟨rfl, h8⟩
  replace h8 := Lib.hid (show Own W p (sx3 A B 0) w8 from h8)
  clear hc
  have hc := h8.out.syncNames
  obtain ⟨e1, e2⟩ := st4o A B
  rw [e1, e2] at hc
  replace hc := Lib.hid hc
  clear e1 e2 h8
  go_wp2_with fail
  refine hc.out.mono ?_
  rintro e w9 ⟨rfl, h9⟩
  replace h9 := Lib.hid (show Own W p (off (sx3 A B 0)) w9 from h9)
  clear hc
  have hkg : KeepAt (w9.alloc (.cells #[] 3 (0, 0))) (.slice x ks.length c) ks db := HK.out.kept fun hn => (Below.heap_alloc _ _ _ (Nat.lt_of_lt_of_le (HDB.out hn) h9.out.below.size)).trans (h9.out.below.block db (HDB.out hn))
  have HKG := Lib.hid hkg
  clear hkg
  go_wp2_with (at_builtin; refine wpList_copy _ rfl _ _ rfl w9.heap.size (cell_new w9 _) _ ks db rfl rfl HKG.out (by omega) ?_)
  intro v' db' wk hkk hup hnew
  have hcr := h9.out.crash (Upon.trans (Upon.alloc (Upon.refl _ _) _) hup) hkk (fun hn => by have := (hnew hn).1; have := (hnew hn).2; simp at *; omega) (sm_of (Nat.zero_le _) (by simp [off, sw, sx1, sx2, sx3, sx4, hAl, hBl]) (by simp [used, off, sw, sx1, sx2, sx3, sx4, List.getD_eq_getElem?_getD]; omega) (by simp [off, sw, sx1, sx2, sx3, sx4]))
  replace hcr := Lib.hid hcr
  obtain ⟨va, vn, vc, rfl⟩ : ∃ a n c, v' = .slice a n c := by obtain ⟨a, c, e, _⟩ := hkk; exact ⟨a, _, c, e⟩
  clear hkk hup hnew h9
  go_wp2_with fail
  refine hcr.out.mono ?_
  rintro e wc ⟨rfl, hce⟩
  obtain ⟨r1, r2⟩ := rd3 A B ks
  have hrd := hce.read ⟨#[109]⟩ (sz.out _)
  rw [show (⟨#[109]⟩ : ByteArray).data.toList = [109] from rfl, r1] at hrd
  clear hce hcr r1
  rcases r2 with r2 | r2
  · rw [r2, HA.out, back_str] at hrd
    replace hrd := Lib.hid hrd
    clear r2
    go_wp2_with fail
    refine hrd.out.mono ?_
    rintro e wd ⟨rfl, hd⟩
    replace hd := Lib.hid hd
    go_wp2
    all_goals (go_ret; exact ⟨rfl, hd.out.below⟩)
  · rw [r2, HBB.out, back_str] at hrd
    replace hrd := Lib.hid hrd
    clear r2
    go_wp2_with fail
    refine hrd.out.mono ?_
    rintro e wd ⟨rfl, hd⟩
    replace hd := Lib.hid hd
    go_wp2
    all_goals (go_ret; exact ⟨rfl, hd.out.below⟩)

set_option maxHeartbeats 8000000 in
set_option maxRecDepth 100000 in
theorem swaps_4 (W : World) (a b : ByteArray) (n : Int) (v : Value) (ks : List Int) (db : Nat) (ha : a.size ≤ 1000) (hb : b.size ≤ 1000) (hk : KeepAt W v ks db) (hdb : ks ≠ [] → db < W.heap.size) (hks : ks.length ≤ 100) (hn : n % 18446744073709551616 % 6 = 4) :
    Calls Try.prog 6 #[.string a, .string b, .int .i64 n, v] W (Yes W) := by
  obtain ⟨x, c, rfl, h1, h2, h3⟩ := hk
  have HK := Lib.hid (show KeepAt W (.slice x ks.length c) ks db from ⟨x, c, rfl, h1, h2, h3⟩)
  have HDB := Lib.hid hdb
  clear h1 h3 hdb
  unfold maxLen at h2
  have hd1 : decide (1000 < (a.size : Int)) = false := decide_eq_false (by omega)
  have hd2 : decide (1000 < (b.size : Int)) = false := decide_eq_false (by omega)
  have hd3 : decide (100 < (ks.length : Int)) = false := decide_eq_false (by omega)
  have hu64 : IntKind.u64.wrap n = n % 18446744073709551616 := by rw [IntKind.wrap_u64]
  have hnn : 0 ≤ n % 18446744073709551616 := Int.emod_nonneg _ (by decide)
  have HN := Lib.hid hn
  obtain ⟨A, hA⟩ : ∃ A, A = a.data.toList := ⟨_, rfl⟩
  obtain ⟨B, hB⟩ : ∃ B, B = b.data.toList := ⟨_, rfl⟩
  have hAl : A.length ≤ 1000 := by rw [hA]; simpa using ha
  have hBl : B.length ≤ 1000 := by rw [hB]; simpa using hb
  have HA := Lib.hid hA
  have HBB := Lib.hid hB
  obtain ⟨s1, s2, s3, s4⟩ := sw_first A hAl
  have S1 := Lib.hid s1
  have S2 := Lib.hid s2
  have S3 := Lib.hid s3
  have S4 := Lib.hid s4
  have sz : ∀ n : UInt8, (⟨#[n]⟩ : ByteArray).size ≤ maxLen := fun n => by unfold maxLen; simp [ByteArray.size]
  replace sz := Lib.hid sz
  clear hn hA hB s1 s2 s3 s4
  go_enter Try.func6, Try.ntmps6
  go_wp2_with fail
  refine (works_true W).mono ?_
  rintro e w0 ⟨rfl, hb0⟩
  replace hb0 := Lib.hid hb0
  go_wp2_with fail
  refine (new_any 1048576 ⟨by omega, by omega⟩ w0).mono ?_
  intro e w1 hm
  obtain ⟨p, rfl, h0⟩ := Own.made hb0.out hm
  have hap := h0.append ⟨#[109]⟩ a (sz.out _) (sm_of ha (by simp [new]) (by simp [used, new]) (by simp [new]))
  rw [← HA.out, show (⟨#[109]⟩ : ByteArray).data.toList = [109] from rfl, S1.out] at hap
  replace hap := Lib.hid hap
  clear h0 hm hb0
  go_wp2_with fail
  refine hap.out.mono ?_
  rintro e w2 ⟨rfl, h2'⟩
  have hsy := (show Own W p (sw1 A) w2 from h2').sync ⟨#[109]⟩ (sz.out _)
  rw [show (⟨#[109]⟩ : ByteArray).data.toList = [109] from rfl, S2.out] at hsy
  replace hsy := Lib.hid hsy
  clear h2' hap
  go_wp2_with fail
  refine hsy.out.mono ?_
  rintro e w3 ⟨rfl, h3'⟩
  have hsn := (show Own W p (sw2 A) w3 from h3').syncNames
  rw [S3.out, show snS (sw2 A) = sw3 A from rfl, S4.out] at hsn
  replace hsn := Lib.hid hsn
  clear h3' hsy
  go_wp2_with fail
  refine hsn.out.mono ?_
  rintro e w4 ⟨rfl, h4'⟩
  replace h4' := Lib.hid h4'
  clear hsn
  go_wp2_with fail
  rw [HN.out]
  refine (h4'.out.fuse 4 (by omega)).mono ?_
  rintro e w5 ⟨rfl, h5⟩
  replace h5 := Lib.hid (show Own W p (sw A 4) w5 from h5)
  clear h4' hu64 hnn HN
  have hc := h5.out.append ⟨#[110]⟩ b (sz.out _) (sm_of hb (by simp [sw, hAl]) (by simp [used, sw, List.getD_eq_getElem?_getD]; omega) (by simp [sw]))
  rw [← HBB.out, show (⟨#[110]⟩ : ByteArray).data.toList = [110] from rfl] at hc
  obtain ⟨e1, e2⟩ := st1 A B hAl hBl 4 (by omega)
  rw [e1, e2] at hc
  replace hc := Lib.hid hc
  clear e1 e2 h5
  go_wp2_with fail
  refine hc.out.mono ?_
  rintro e w6 ⟨rfl, h6⟩
  replace h6 := Lib.hid (show Own W p (sx1 A B 3) w6 from h6)
  clear hc
  have hc := h6.out.sync ⟨#[110]⟩ (sz.out _)
  rw [show (⟨#[110]⟩ : ByteArray).data.toList = [110] from rfl] at hc
  obtain ⟨e1, e2⟩ := st2 A B 3 (by omega)
  rw [e1, e2] at hc
  replace hc := Lib.hid hc
  clear e1 e2 h6
  go_wp2_with fail
  refine hc.out.mono ?_
  rintro e w7 ⟨rfl, h7⟩
  replace h7 := Lib.hid (show Own W p (sx2 A B 2) w7 from h7)
  clear hc
  have hc := h7.out.rename ⟨#[110]⟩ ⟨#[109]⟩ (sz.out _) (sz.out _) (by simp [sx2])
  rw [show (⟨#[110]⟩ : ByteArray).data.toList = [110] from rfl, show (⟨#[109]⟩ : ByteArray).data.toList = [109] from rfl] at hc
  obtain ⟨e1, e2⟩ := st3 A B 2 (by omega)
  rw [e1, e2] at hc
  replace hc := Lib.hid hc
  clear e1 e2 h7
  go_wp2_with fail
  refine hc.out.mono ?_
  rintro e w8 ⟨rfl, h8⟩
  replace h8 := Lib.hid (show Own W p (sx3 A B 1) w8 from h8)
  clear hc
  have hc := h8.out.syncNames
  obtain ⟨e1, e2⟩ := st4 A B 1 (by omega)
  rw [e1, e2] at hc
  replace hc := Lib.hid hc
  clear e1 e2 h8
  go_wp2_with fail
  refine hc.out.mono ?_
  rintro e w9 ⟨rfl, h9⟩
  replace h9 := Lib.hid (show Own W p (sx4 A B 0) w9 from h9)
  clear hc
  have hkg : KeepAt (w9.alloc (.cells #[] 3 (0, 0))) (.slice x ks.length c) ks db := HK.out.kept fun hn => (Below.heap_alloc _ _ _ (Nat.lt_of_lt_of_le (HDB.out hn) h9.out.below.size)).trans (h9.out.below.block db (HDB.out hn))
  have HKG := Lib.hid hkg
  clear hkg
  go_wp2_with (at_builtin; refine wpList_copy _ rfl _ _ rfl w9.heap.size (cell_new w9 _) _ ks db rfl rfl HKG.out (by omega) ?_)
  intro v' db' wk hkk hup hnew
  have hcr := h9.out.crash (Upon.trans (Upon.alloc (Upon.refl _ _) _) hup) hkk (fun hn => by have := (hnew hn).1; have := (hnew hn).2; simp at *; omega) (sm_of (Nat.zero_le _) (by simp [off, sw, sx1, sx2, sx3, sx4, hAl, hBl]) (by simp [used, off, sw, sx1, sx2, sx3, sx4, List.getD_eq_getElem?_getD]; omega) (by simp [off, sw, sx1, sx2, sx3, sx4]))
  replace hcr := Lib.hid hcr
  obtain ⟨va, vn, vc, rfl⟩ : ∃ a n c, v' = .slice a n c := by obtain ⟨a, c, e, _⟩ := hkk; exact ⟨a, _, c, e⟩
  clear hkk hup hnew h9
  go_wp2_with fail
  refine hcr.out.mono ?_
  rintro e wc ⟨rfl, hce⟩
  obtain ⟨r1, r2⟩ := rd4 A B 0 ks
  have hrd := hce.read ⟨#[109]⟩ (sz.out _)
  rw [show (⟨#[109]⟩ : ByteArray).data.toList = [109] from rfl, r1] at hrd
  clear hce hcr r1
  rw [r2, HBB.out, back_str] at hrd
  replace hrd := Lib.hid hrd
  clear r2
  go_wp2_with fail
  refine hrd.out.mono ?_
  rintro e wd ⟨rfl, hd⟩
  replace hd := Lib.hid hd
  go_wp2
  all_goals (go_ret; exact ⟨rfl, hd.out.below⟩)

set_option maxHeartbeats 8000000 in
set_option maxRecDepth 100000 in
theorem swaps_5 (W : World) (a b : ByteArray) (n : Int) (v : Value) (ks : List Int) (db : Nat) (ha : a.size ≤ 1000) (hb : b.size ≤ 1000) (hk : KeepAt W v ks db) (hdb : ks ≠ [] → db < W.heap.size) (hks : ks.length ≤ 100) (hn : n % 18446744073709551616 % 6 = 5) :
    Calls Try.prog 6 #[.string a, .string b, .int .i64 n, v] W (Yes W) := by
  obtain ⟨x, c, rfl, h1, h2, h3⟩ := hk
  have HK := Lib.hid (show KeepAt W (.slice x ks.length c) ks db from ⟨x, c, rfl, h1, h2, h3⟩)
  have HDB := Lib.hid hdb
  clear h1 h3 hdb
  unfold maxLen at h2
  have hd1 : decide (1000 < (a.size : Int)) = false := decide_eq_false (by omega)
  have hd2 : decide (1000 < (b.size : Int)) = false := decide_eq_false (by omega)
  have hd3 : decide (100 < (ks.length : Int)) = false := decide_eq_false (by omega)
  have hu64 : IntKind.u64.wrap n = n % 18446744073709551616 := by rw [IntKind.wrap_u64]
  have hnn : 0 ≤ n % 18446744073709551616 := Int.emod_nonneg _ (by decide)
  have HN := Lib.hid hn
  obtain ⟨A, hA⟩ : ∃ A, A = a.data.toList := ⟨_, rfl⟩
  obtain ⟨B, hB⟩ : ∃ B, B = b.data.toList := ⟨_, rfl⟩
  have hAl : A.length ≤ 1000 := by rw [hA]; simpa using ha
  have hBl : B.length ≤ 1000 := by rw [hB]; simpa using hb
  have HA := Lib.hid hA
  have HBB := Lib.hid hB
  obtain ⟨s1, s2, s3, s4⟩ := sw_first A hAl
  have S1 := Lib.hid s1
  have S2 := Lib.hid s2
  have S3 := Lib.hid s3
  have S4 := Lib.hid s4
  have sz : ∀ n : UInt8, (⟨#[n]⟩ : ByteArray).size ≤ maxLen := fun n => by unfold maxLen; simp [ByteArray.size]
  replace sz := Lib.hid sz
  clear hn hA hB s1 s2 s3 s4
  go_enter Try.func6, Try.ntmps6
  go_wp2_with fail
  refine (works_true W).mono ?_
  rintro e w0 ⟨rfl, hb0⟩
  replace hb0 := Lib.hid hb0
  go_wp2_with fail
  refine (new_any 1048576 ⟨by omega, by omega⟩ w0).mono ?_
  intro e w1 hm
  obtain ⟨p, rfl, h0⟩ := Own.made hb0.out hm
  have hap := h0.append ⟨#[109]⟩ a (sz.out _) (sm_of ha (by simp [new]) (by simp [used, new]) (by simp [new]))
  rw [← HA.out, show (⟨#[109]⟩ : ByteArray).data.toList = [109] from rfl, S1.out] at hap
  replace hap := Lib.hid hap
  clear h0 hm hb0
  go_wp2_with fail
  refine hap.out.mono ?_
  rintro e w2 ⟨rfl, h2'⟩
  have hsy := (show Own W p (sw1 A) w2 from h2').sync ⟨#[109]⟩ (sz.out _)
  rw [show (⟨#[109]⟩ : ByteArray).data.toList = [109] from rfl, S2.out] at hsy
  replace hsy := Lib.hid hsy
  clear h2' hap
  go_wp2_with fail
  refine hsy.out.mono ?_
  rintro e w3 ⟨rfl, h3'⟩
  have hsn := (show Own W p (sw2 A) w3 from h3').syncNames
  rw [S3.out, show snS (sw2 A) = sw3 A from rfl, S4.out] at hsn
  replace hsn := Lib.hid hsn
  clear h3' hsy
  go_wp2_with fail
  refine hsn.out.mono ?_
  rintro e w4 ⟨rfl, h4'⟩
  replace h4' := Lib.hid h4'
  clear hsn
  go_wp2_with fail
  rw [HN.out]
  refine (h4'.out.fuse 5 (by omega)).mono ?_
  rintro e w5 ⟨rfl, h5⟩
  replace h5 := Lib.hid (show Own W p (sw A 5) w5 from h5)
  clear h4' hu64 hnn HN
  have hc := h5.out.append ⟨#[110]⟩ b (sz.out _) (sm_of hb (by simp [sw, hAl]) (by simp [used, sw, List.getD_eq_getElem?_getD]; omega) (by simp [sw]))
  rw [← HBB.out, show (⟨#[110]⟩ : ByteArray).data.toList = [110] from rfl] at hc
  obtain ⟨e1, e2⟩ := st1 A B hAl hBl 5 (by omega)
  rw [e1, e2] at hc
  replace hc := Lib.hid hc
  clear e1 e2 h5
  go_wp2_with fail
  refine hc.out.mono ?_
  rintro e w6 ⟨rfl, h6⟩
  replace h6 := Lib.hid (show Own W p (sx1 A B 4) w6 from h6)
  clear hc
  have hc := h6.out.sync ⟨#[110]⟩ (sz.out _)
  rw [show (⟨#[110]⟩ : ByteArray).data.toList = [110] from rfl] at hc
  obtain ⟨e1, e2⟩ := st2 A B 4 (by omega)
  rw [e1, e2] at hc
  replace hc := Lib.hid hc
  clear e1 e2 h6
  go_wp2_with fail
  refine hc.out.mono ?_
  rintro e w7 ⟨rfl, h7⟩
  replace h7 := Lib.hid (show Own W p (sx2 A B 3) w7 from h7)
  clear hc
  have hc := h7.out.rename ⟨#[110]⟩ ⟨#[109]⟩ (sz.out _) (sz.out _) (by simp [sx2])
  rw [show (⟨#[110]⟩ : ByteArray).data.toList = [110] from rfl, show (⟨#[109]⟩ : ByteArray).data.toList = [109] from rfl] at hc
  obtain ⟨e1, e2⟩ := st3 A B 3 (by omega)
  rw [e1, e2] at hc
  replace hc := Lib.hid hc
  clear e1 e2 h7
  go_wp2_with fail
  refine hc.out.mono ?_
  rintro e w8 ⟨rfl, h8⟩
  replace h8 := Lib.hid (show Own W p (sx3 A B 2) w8 from h8)
  clear hc
  have hc := h8.out.syncNames
  obtain ⟨e1, e2⟩ := st4 A B 2 (by omega)
  rw [e1, e2] at hc
  replace hc := Lib.hid hc
  clear e1 e2 h8
  go_wp2_with fail
  refine hc.out.mono ?_
  rintro e w9 ⟨rfl, h9⟩
  replace h9 := Lib.hid (show Own W p (sx4 A B 1) w9 from h9)
  clear hc
  have hkg : KeepAt (w9.alloc (.cells #[] 3 (0, 0))) (.slice x ks.length c) ks db := HK.out.kept fun hn => (Below.heap_alloc _ _ _ (Nat.lt_of_lt_of_le (HDB.out hn) h9.out.below.size)).trans (h9.out.below.block db (HDB.out hn))
  have HKG := Lib.hid hkg
  clear hkg
  go_wp2_with (at_builtin; refine wpList_copy _ rfl _ _ rfl w9.heap.size (cell_new w9 _) _ ks db rfl rfl HKG.out (by omega) ?_)
  intro v' db' wk hkk hup hnew
  have hcr := h9.out.crash (Upon.trans (Upon.alloc (Upon.refl _ _) _) hup) hkk (fun hn => by have := (hnew hn).1; have := (hnew hn).2; simp at *; omega) (sm_of (Nat.zero_le _) (by simp [off, sw, sx1, sx2, sx3, sx4, hAl, hBl]) (by simp [used, off, sw, sx1, sx2, sx3, sx4, List.getD_eq_getElem?_getD]; omega) (by simp [off, sw, sx1, sx2, sx3, sx4]))
  replace hcr := Lib.hid hcr
  obtain ⟨va, vn, vc, rfl⟩ : ∃ a n c, v' = .slice a n c := by obtain ⟨a, c, e, _⟩ := hkk; exact ⟨a, _, c, e⟩
  clear hkk hup hnew h9
  go_wp2_with fail
  refine hcr.out.mono ?_
  rintro e wc ⟨rfl, hce⟩
  obtain ⟨r1, r2⟩ := rd4 A B 1 ks
  have hrd := hce.read ⟨#[109]⟩ (sz.out _)
  rw [show (⟨#[109]⟩ : ByteArray).data.toList = [109] from rfl, r1] at hrd
  clear hce hcr r1
  rw [r2, HBB.out, back_str] at hrd
  replace hrd := Lib.hid hrd
  clear r2
  go_wp2_with fail
  refine hrd.out.mono ?_
  rintro e wd ⟨rfl, hd⟩
  replace hd := Lib.hid hd
  go_wp2
  all_goals (go_ret; exact ⟨rfl, hd.out.below⟩)

theorem swaps_true (W : World) (a b : ByteArray) (n : Int) (v : Value) (za : a.size ≤ 140737488351232) (zb : b.size ≤ 140737488351232) (_n0 : -9223372036854775808 ≤ n) (_n1 : n ≤ 9223372036854775807) (o : IsInts v W) :
    Calls Try.prog 6 #[.string a, .string b, .int .i64 n, v] W (Yes W) := by
  have o' := o
  obtain ⟨ks, db, hk, hdb⟩ := o
  by_cases ha : 1000 < a.size
  · exact swaps_long W a b n v za zb o' (.inl ha)
  by_cases hb : 1000 < b.size
  · exact swaps_long W a b n v za zb o' (.inr (.inl hb))
  by_cases hks : 100 < ks.length
  · exact swaps_long W a b n v za zb o' (.inr (.inr (by obtain ⟨x, c, e, _⟩ := hk; exact ⟨x, _, c, e, hks⟩)))
  have hnn : 0 ≤ n % 18446744073709551616 := Int.emod_nonneg _ (by decide)
  have h6 : n % 18446744073709551616 % 6 = 0 ∨ n % 18446744073709551616 % 6 = 1 ∨ n % 18446744073709551616 % 6 = 2 ∨ n % 18446744073709551616 % 6 = 3 ∨ n % 18446744073709551616 % 6 = 4 ∨ n % 18446744073709551616 % 6 = 5 := by omega
  rcases h6 with h | h | h | h | h | h
  · exact swaps_0 W a b n v ks db (by omega) (by omega) hk hdb (by omega) h
  · exact swaps_1 W a b n v ks db (by omega) (by omega) hk hdb (by omega) h
  · exact swaps_2 W a b n v ks db (by omega) (by omega) hk hdb (by omega) h
  · exact swaps_3 W a b n v ks db (by omega) (by omega) hk hdb (by omega) h
  · exact swaps_4 W a b n v ks db (by omega) (by omega) hk hdb (by omega) h
  · exact swaps_5 W a b n v ks db (by omega) (by omega) hk hdb (by omega) h
end Dsk
end Go.Proofs.Ytfpphahdbhelcaa
