/- replace: a file has other bytes (layer 5). -/
import Derived.Test.YtlgjbdfnhaoloaaGreatDoorWalRev
set_option linter.unusedSimpArgs false
set_option linter.unusedVariables false
namespace Go.Proofs.YtlgjbdfnhaoloaaGreatDoor
open Go.RowKit Go.Sort
namespace Wal
open Dig Frm Dsk

/-! ### what the steps do to the numbers -/
theorem wrS_FNC (st : St) : (wrS st).F = st.F ∧ (wrS st).N = st.N ∧ (wrS st).C = st.C := by
  unfold wrS; split
  · exact ⟨rfl, rfl, rfl⟩
  · split <;> exact ⟨rfl, rfl, rfl⟩
theorem remS_F (st : St) (k : Str) : (remS st k).F = st.F := by
  unfold remS; split
  · exact (wrS_FNC st).1
  · exact (wrS_FNC st).1
theorem renS_F (st : St) (a b : Str) : (renS st a b).F = st.F := by
  unfold renS; split
  · exact (wrS_FNC st).1
  · exact (wrS_FNC st).1
theorem snS_F (st : St) : (snS st).F = st.F := by
  unfold snS; split
  · exact (wrS_FNC st).1
  · exact (wrS_FNC st).1
theorem appS_C (st : St) (k s : Str) : (appS st k s).C.length ≤ st.C.length + 1 := by
  unfold appS; split
  · unfold addF; split
    · show (wrS st).C.length ≤ _; rw [(wrS_FNC st).2.2]; omega
    · simp [(wrS_FNC st).2.2]
  · rw [(wrS_FNC st).2.2]; omega
theorem syncS_C (st : St) (k : Str) : (syncS st k).C = st.C := by
  unfold syncS; split
  · unfold syncF; split
    · exact (wrS_FNC st).2.2
    · exact (wrS_FNC st).2.2
  · exact (wrS_FNC st).2.2
theorem renS_C (st : St) (a b : Str) : (renS st a b).C.length ≤ st.C.length + 1 := by
  unfold renS; split
  · simp [chg, (wrS_FNC st).2.2]
  · rw [(wrS_FNC st).2.2]; omega
theorem sum_map_le {α : Type} (f : α → Nat) (M : Nat) : ∀ (l : List α), (∀ x ∈ l, f x ≤ M) → (l.map f).sum ≤ l.length * M
  | [], _ => by simp
  | x :: r, h => by
    have h1 := h x (by simp)
    have h2 := sum_map_le f M r fun y hy => h y (by simp [hy])
    simp only [List.map_cons, List.sum_cons, List.length_cons, Nat.succ_mul]
    omega
theorem getD_len {F : List FileS} {M : Nat} (h : ∀ f ∈ F, f.s.length ≤ M) (i : Nat) : (F.getD i default).s.length ≤ M := by
  rw [List.getD_eq_getElem?_getD]
  cases hi : F[i]? with
  | none => exact Nat.zero_le _
  | some f => exact h f (List.mem_of_getElem? hi)
theorem used_le {st : St} (hf : Fine st) {M : Nat} (h : ∀ f ∈ st.F, f.s.length ≤ M) : used st ≤ 64 * M := by
  have h1 := sum_map_le (fun p : Str × Nat => (st.F.getD p.2 default).s.length) M st.N fun p _ => getD_len h p.2
  have h2 := Nat.mul_le_mul_right M hf.nmN.len
  unfold used
  omega

/-- Kept from w on: T's blocks; the disk is st'. -/
def Kp (B : Nat) (W : World) (S : Nat → Prop) (pd : Nat) (T : Nat → Prop) (w : World) (st' : St) (w' : World) : Prop := Fr B W S pd st' T w' ∧ (∀ b, T b → w'.heap[b]? = w.heap[b]?) ∧ w.heap.size ≤ w'.heap.size
theorem Kp.go {B : Nat} {W w w1 w2 : World} {S T : Nat → Prop} {pd : Nat} {st1 st2 : St} (h : Kp B W S pd T w st1 w1) (h2 : Kp B W S pd T w1 st2 w2) : Kp B W S pd T w st2 w2 :=
  ⟨h2.1, fun b hb => (h2.2.1 b hb).trans (h.2.1 b hb), Nat.le_trans h.2.2 h2.2.2⟩
theorem Kp.start {B : Nat} {W w : World} {S T : Nat → Prop} {pd : Nat} {st : St} (h : Fr B W S pd st T w) : Kp B W S pd T w st w := ⟨h, fun _ _ => rfl, Nat.le_refl _⟩

def spB : ByteArray := ⟨#[116]⟩
theorem spB_len : spB.size ≤ maxLen := by show 1 ≤ maxLen; unfold maxLen; omega
theorem spB_list : spB.data.toList = spareL := rfl

theorem Fr.readSp {B : Nat} {W w : World} {S T : Nat → Prop} {pd : Nat} {st : St} (h : Fr B W S pd st T w) :
    Calls Tryz.prog 52 #[.pointer (some ⟨pd, 0, none⟩), .string ⟨#[116]⟩] w fun e w' => e = .returned (.tuple #[.string ⟨(readA st spareL).toArray⟩, .int .i64 (readE st spareL)]) ∧ Kp B W S pd T w st w' :=
  h.step (P := fun e => e = .returned (.tuple #[.string ⟨(readA st spareL).toArray⟩, .int .i64 (readE st spareL)])) fun Sd hd => read_any Sd pd st spB spB_len w hd
theorem Fr.remSp {B : Nat} {W w : World} {S T : Nat → Prop} {pd : Nat} {st : St} (h : Fr B W S pd st T w) (hC : st.C.length ≤ 1000000000) :
    Calls Tryz.prog 74 #[.pointer (some ⟨pd, 0, none⟩), .string ⟨#[116]⟩] w fun e w' => e = .returned (.int .i64 (remE st spareL)) ∧ Kp B W S pd T w (remS st spareL) w' :=
  h.step (P := fun e => e = .returned (.int .i64 (remE st spareL))) fun Sd hd => rem_any Sd pd st spB spB_len hC w hd
theorem Fr.appSp {B : Nat} {W w : World} {S T : Nat → Prop} {pd : Nat} {st : St} (h : Fr B W S pd st T w) (d : ByteArray) (hd : d.size ≤ 1000000000000) (hF : ∀ f ∈ st.F, f.s.length ≤ 1000000000000) (hC : st.C.length ≤ 1000000000) :
    Calls Tryz.prog 32 #[.pointer (some ⟨pd, 0, none⟩), .string ⟨#[116]⟩, .string d] w fun e w' => e = .returned (.int .i64 (appE st spareL d.data.toList)) ∧ Kp B W S pd T w (appS st spareL d.data.toList) w' :=
  h.step (P := fun e => e = .returned (.int .i64 (appE st spareL d.data.toList))) fun Sd hdd => app_any Sd pd st spB d spB_len (by have := used_le h.fine hF; omega) (fun f hf => by have := hF f hf; omega) (by omega) hC w hdd
theorem Fr.syncSp {B : Nat} {W w : World} {S T : Nat → Prop} {pd : Nat} {st : St} (h : Fr B W S pd st T w) :
    Calls Tryz.prog 35 #[.pointer (some ⟨pd, 0, none⟩), .string ⟨#[116]⟩] w fun e w' => e = .returned (.int .i64 (syncE st spareL)) ∧ Kp B W S pd T w (syncS st spareL) w' :=
  h.step (P := fun e => e = .returned (.int .i64 (syncE st spareL))) fun Sd hd => sync_any Sd pd st spB spB_len w hd
theorem Fr.renSp {B : Nat} {W w : World} {S T : Nat → Prop} {pd : Nat} {st : St} (h : Fr B W S pd st T w) (n : Nat) (hn : n ≤ 99999999) (hC : st.C.length ≤ 1000000000) :
    Calls Tryz.prog 88 #[.pointer (some ⟨pd, 0, none⟩), .string ⟨#[116]⟩, .string (nameB n)] w fun e w' => e = .returned (.int .i64 (renE st spareL (nameL n))) ∧ Kp B W S pd T w (renS st spareL (nameL n)) w' :=
  h.step (P := fun e => e = .returned (.int .i64 (renE st spareL (nameL n)))) fun Sd hd => by
    have hns : (nameB n).size ≤ maxLen := by
      have e : (nameB n).size = (nameL n).length := rfl
      rw [e, name_length _ hn]; unfold maxLen; omega
    have := ren_any Sd pd st spB (nameB n) spB_len hns hC w hd
    rw [nameB_list] at this
    exact this

def tailR (st : St) (k s : Str) : St × Int :=
  if appE st spareL s ≠ 0 then (appS st spareL s, appE st spareL s)
  else if syncE (appS st spareL s) spareL ≠ 0 then (syncS (appS st spareL s) spareL, syncE (appS st spareL s) spareL)
  else (renS (syncS (appS st spareL s) spareL) spareL k, renE (syncS (appS st spareL s) spareL) spareL k)
theorem replaceL_eq (st : St) (k s : Str) : replaceL st k s = if readE st spareL = 0 then (if remE st spareL ≠ 0 then (remS st spareL, remE st spareL) else tailR (remS st spareL) k s) else tailR st k s := by
  unfold replaceL tailR
  by_cases h : readE st spareL = 0
  · simp only [h, if_true]
    try rfl
  · simp only [h, if_false]
    try rfl

/-- What the call leaves. -/
def Repl (B : Nat) (W : World) (S : Nat → Prop) (pd : Nat) (T : Nat → Prop) (w : World) (a : St × Int) (r : Ending) (w' : World) : Prop := r = .returned (.int .i64 a.2) ∧ Kp B W S pd T w a.1 w'

set_option maxHeartbeats 3200000 in
set_option maxRecDepth 100000 in
theorem replace_any (B : Nat) (W : World) (S T : Nat → Prop) (pd pl : Nat) (st : St) (n : Nat) (hn : n ≤ 99999999) (d : ByteArray) (hd : d.size ≤ 1000000000000) (hF : ∀ f ∈ st.F, f.s.length ≤ 1000000000000) (hC : st.C.length ≤ 900000000) (w : World)
    (hf : Fr B W S pd st T w) (hp : T pl) (hc : w.cell? ⟨pl, 0, none⟩ = some (.pointer (some ⟨pd, 0, none⟩))) :
    Calls Tryz.prog 75 #[.pointer (some ⟨pl, 0, none⟩), .string (nameB n), .string d] w (Repl B W S pd T w (replaceL st (nameL n) d.data.toList)) := by
  -- the walk behind what is taken away
  have HT := Lib.hid (show ∀ st0, (∀ f ∈ st0.F, f.s.length ≤ 1000000000000) → st0.C.length ≤ 900000001 →
      (∀ w1, Kp B W S pd T w st0 w1 → Calls Tryz.prog 32 #[.pointer (some ⟨pd, 0, none⟩), .string ⟨#[116]⟩, .string d] w1 fun e w' => e = .returned (.int .i64 (appE st0 spareL d.data.toList)) ∧ Kp B W S pd T w (appS st0 spareL d.data.toList) w') ∧
      (∀ w1, Kp B W S pd T w (appS st0 spareL d.data.toList) w1 → Calls Tryz.prog 35 #[.pointer (some ⟨pd, 0, none⟩), .string ⟨#[116]⟩] w1 fun e w' => e = .returned (.int .i64 (syncE (appS st0 spareL d.data.toList) spareL)) ∧ Kp B W S pd T w (syncS (appS st0 spareL d.data.toList) spareL) w') ∧
      (∀ w1, Kp B W S pd T w (syncS (appS st0 spareL d.data.toList) spareL) w1 → Calls Tryz.prog 88 #[.pointer (some ⟨pd, 0, none⟩), .string ⟨#[116]⟩, .string (nameB n)] w1 fun e w' => e = .returned (.int .i64 (renE (syncS (appS st0 spareL d.data.toList) spareL) spareL (nameL n))) ∧ Kp B W S pd T w (renS (syncS (appS st0 spareL d.data.toList) spareL) spareL (nameL n)) w') ∧
      (appE st0 spareL d.data.toList ≠ 0 → tailR st0 (nameL n) d.data.toList = (appS st0 spareL d.data.toList, appE st0 spareL d.data.toList)) ∧
      (appE st0 spareL d.data.toList = 0 → syncE (appS st0 spareL d.data.toList) spareL ≠ 0 → tailR st0 (nameL n) d.data.toList = (syncS (appS st0 spareL d.data.toList) spareL, syncE (appS st0 spareL d.data.toList) spareL)) ∧
      (appE st0 spareL d.data.toList = 0 → syncE (appS st0 spareL d.data.toList) spareL = 0 → tailR st0 (nameL n) d.data.toList = (renS (syncS (appS st0 spareL d.data.toList) spareL) spareL (nameL n), renE (syncS (appS st0 spareL d.data.toList) spareL) spareL (nameL n))) from fun st0 h1 h2 => by
    have c1 := appS_C st0 spareL d.data.toList
    have c2 := syncS_C (appS st0 spareL d.data.toList) spareL
    refine ⟨fun w1 k => (k.1.appSp d hd h1 (by omega)).mono fun e w' ⟨he, hk⟩ => ⟨he, k.go hk⟩, fun w1 k => k.1.syncSp.mono fun e w' ⟨he, hk⟩ => ⟨he, k.go hk⟩, fun w1 k => (k.1.renSp n hn (by rw [c2]; omega)).mono fun e w' ⟨he, hk⟩ => ⟨he, k.go hk⟩, fun h => ?_, fun h h' => ?_, fun h h' => ?_⟩
    · unfold tailR; rw [if_pos h]
    · unfold tailR; rw [if_neg (by simp [h]), if_pos h']
    · unfold tailR; rw [if_neg (by simp [h]), if_neg (by simp [h'])])
  have HC := Lib.hid (fun st' w1 (k : Kp B W S pd T w st' w1) => (show w1.cell? ⟨pl, 0, none⟩ = some (.pointer (some ⟨pd, 0, none⟩)) from (World.cell?_of_block (w := w) (a := ⟨pl, 0, none⟩) (k.2.1 pl hp)).trans hc))
  have HRD := Lib.hid hf.readSp
  have hrep := replaceL_eq st (nameL n) d.data.toList
  by_cases hr : readE st spareL = 0
  · rw [if_pos hr] at hrep
    rw [hr] at HRD
    have HRM := Lib.hid (fun w1 (k : Kp B W S pd T w st w1) => (k.1.remSp (by omega)).mono fun e w' (h : e = .returned (.int .i64 (remE st spareL)) ∧ Kp B W S pd T w1 (remS st spareL) w') => (show e = .returned (.int .i64 (remE st spareL)) ∧ Kp B W S pd T w (remS st spareL) w' from ⟨h.1, k.go h.2⟩))
    obtain ⟨HA0, HS0, HR0, q1, q2, q3⟩ := HT.out (remS st spareL) (by rw [remS_F]; exact hF) (by have := remS_C st spareL; omega)
    obtain ⟨HA, HS, HR⟩ := And.intro (Lib.hid HA0) (And.intro (Lib.hid HS0) (Lib.hid HR0))
    have HQ0 := Lib.hid (show remE st spareL ≠ 0 → ∀ w', Kp B W S pd T w (remS st spareL) w' → Repl B W S pd T w (replaceL st (nameL n) d.data.toList) (.returned (.int .i64 (remE st spareL))) w' from fun h w' k => by rw [hrep, if_pos h]; exact ⟨rfl, k⟩)
    have HQ1 := Lib.hid (show ∀ a, remE st spareL = 0 → tailR (remS st spareL) (nameL n) d.data.toList = a → ∀ w', Kp B W S pd T w a.1 w' → Repl B W S pd T w (replaceL st (nameL n) d.data.toList) (.returned (.int .i64 a.2)) w' from fun a h ha w' k => by rw [hrep, if_neg (by simp [h]), ha]; exact ⟨rfl, k⟩)
    generalize Repl B W S pd T w (replaceL st (nameL n) d.data.toList) = Q at HQ0 HQ1 ⊢
    generalize remS st spareL = st0 at *
    generalize remE st spareL = e0 at *
    generalize tailR st0 (nameL n) d.data.toList = Z at *
    clear HA0 HS0 HR0 HT hrep hf hr hF hC hp hn hd
    generalize appS st0 spareL d.data.toList = st1 at *
    generalize appE st0 spareL d.data.toList = e1 at *
    generalize syncS st1 spareL = st2 at *
    generalize syncE st1 spareL = e2 at *
    generalize renS st2 spareL (nameL n) = st3 at *
    generalize renE st2 spareL (nameL n) = e3 at *
    generalize readA st spareL = rd at *
    go_enter Tryz.func75, Tryz.ntmps75
    go_wp2_with fail
    refine HRD.out.mono ?_
    rintro r w1 ⟨rfl, k1⟩
    have c1 := HC.out _ _ k1
    have HRM1 := Lib.hid (HRM.out _ k1)
    clear k1 HRD HRM hc
    go_wp2_with fail
    refine HRM1.out.mono ?_
    rintro r w2 ⟨rfl, k2⟩
    by_cases h0 : e0 = 0
    · subst h0
      have c2 := HC.out _ _ k2
      have HA1 := Lib.hid (HA.out _ k2)
      clear k2 HRM1 c1 HA
      go_wp2_with fail
      refine HA1.out.mono ?_
      rintro r w3 ⟨rfl, k3⟩
      by_cases h1 : e1 = 0
      · subst h1
        have c3 := HC.out _ _ k3
        have HS1 := Lib.hid (HS.out _ k3)
        clear k3 HA1 c2 HS
        go_wp2_with fail
        refine HS1.out.mono ?_
        rintro r w4 ⟨rfl, k4⟩
        by_cases h2 : e2 = 0
        · subst h2
          have c4 := HC.out _ _ k4
          have HR1 := Lib.hid (HR.out _ k4)
          have HQ := Lib.hid (HQ1.out _ (by trivial) (q3 (by trivial) (by trivial)))
          clear k4 HS1 c3 HR HQ0 HQ1
          go_wp2_with fail
          refine HR1.out.mono ?_
          rintro r w5 ⟨rfl, k5⟩
          have HQ5 := Lib.hid (HQ.out _ k5)
          clear k5 HR1 c4 HQ
          go_wp2
          exact HQ5.out
        · have hne : (e2 != 0) = true := by simp; exact h2
          have HQ := Lib.hid (HQ1.out _ (by trivial) (q2 (by trivial) h2) _ k4)
          clear k4 HS1 c3 HR HQ0 HQ1 HC
          go_wp2
          exact HQ.out
      · have hne : (e1 != 0) = true := by simp; exact h1
        have HQ := Lib.hid (HQ1.out _ (by trivial) (q1 h1) _ k3)
        clear k3 HA1 c2 HS HR HQ0 HQ1 HC
        go_wp2
        exact HQ.out
    · have hne : (e0 != 0) = true := by simp; exact h0
      have HQ := Lib.hid (HQ0.out h0 _ k2)
      clear k2 HRM1 c1 HA HS HR HQ0 HQ1 HC
      go_wp2
      exact HQ.out
  · rw [if_neg hr] at hrep
    obtain ⟨HA0, HS0, HR0, q1, q2, q3⟩ := HT.out st hF (by omega)
    obtain ⟨HA, HS, HR⟩ := And.intro (Lib.hid HA0) (And.intro (Lib.hid HS0) (Lib.hid HR0))
    have HQ1 := Lib.hid (show ∀ a, tailR st (nameL n) d.data.toList = a → ∀ w', Kp B W S pd T w a.1 w' → Repl B W S pd T w (replaceL st (nameL n) d.data.toList) (.returned (.int .i64 a.2)) w' from fun a ha w' k => by rw [hrep, ha]; exact ⟨rfl, k⟩)
    have hrb : (readE st spareL == 0) = false := by simp; exact hr
    generalize Repl B W S pd T w (replaceL st (nameL n) d.data.toList) = Q at HQ1 ⊢
    generalize tailR st (nameL n) d.data.toList = Z at *
    clear HA0 HS0 HR0 HT hrep hf hF hC hp hn hd hr
    generalize appS st spareL d.data.toList = st1 at *
    generalize appE st spareL d.data.toList = e1 at *
    generalize syncS st1 spareL = st2 at *
    generalize syncE st1 spareL = e2 at *
    generalize renS st2 spareL (nameL n) = st3 at *
    generalize renE st2 spareL (nameL n) = e3 at *
    generalize readA st spareL = rd at *
    generalize readE st spareL = re at *
    go_enter Tryz.func75, Tryz.ntmps75
    go_wp2_with fail
    refine HRD.out.mono ?_
    rintro r w2 ⟨rfl, k2⟩
    have c2 := HC.out _ _ k2
    have HA1 := Lib.hid (HA.out _ k2)
    clear k2 HRD HA hc
    go_wp2_with fail
    refine HA1.out.mono ?_
    rintro r w3 ⟨rfl, k3⟩
    by_cases h1 : e1 = 0
    · subst h1
      have c3 := HC.out _ _ k3
      have HS1 := Lib.hid (HS.out _ k3)
      clear k3 HA1 c2 HS
      go_wp2_with fail
      refine HS1.out.mono ?_
      rintro r w4 ⟨rfl, k4⟩
      by_cases h2 : e2 = 0
      · subst h2
        have c4 := HC.out _ _ k4
        have HR1 := Lib.hid (HR.out _ k4)
        have HQ := Lib.hid (HQ1.out _ (q3 (by trivial) (by trivial)))
        clear k4 HS1 c3 HR HQ1
        go_wp2_with fail
        refine HR1.out.mono ?_
        rintro r w5 ⟨rfl, k5⟩
        have HQ5 := Lib.hid (HQ.out _ k5)
        clear k5 HR1 c4 HQ
        go_wp2
        exact HQ5.out
      · have hne : (e2 != 0) = true := by simp; exact h2
        have HQ := Lib.hid (HQ1.out _ (q2 (by trivial) h2) _ k4)
        clear k4 HS1 c3 HR HQ1 HC
        go_wp2
        exact HQ.out
    · have hne : (e1 != 0) = true := by simp; exact h1
      have HQ := Lib.hid (HQ1.out _ (q1 h1) _ k3)
      clear k3 HA1 c2 HS HR HQ1 HC
      go_wp2
      exact HQ.out
end Wal
end Go.Proofs.YtlgjbdfnhaoloaaGreatDoor
