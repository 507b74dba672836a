/- What the disk's Sync and Read do (layer 4), and what a name is. -/
import Derived.Test.YtfpphahdbhelcaaDiskOne
namespace Go.Proofs.Ytfpphahdbhelcaa
open Go.RowKit
namespace Dsk
open Go.Maps

/-- From a to b the disk has gone from the blocks S to S'. -/
structure Been (S S' : Nat → Prop) (a b : World) : Prop where
  sub : ∀ x, S x → S' x
  new : ∀ x, S' x → S x ∨ a.heap.size ≤ x
  upon : Upon S a b
theorem Step.get {S : Nat → Prop} {p : Nat} {st : St} {a b : World} (h : Step S p st a b) : ∃ S' g, DiskG b S' p st g ∧ Been S S' a b := by
  obtain ⟨⟨S', ⟨g, h1⟩, h2, h3⟩, hu⟩ := h; exact ⟨S', g, h1, h2, h3, hu⟩
theorem Been.refl (S : Nat → Prop) (a : World) : Been S S a a := ⟨fun _ h => h, fun _ h => .inl h, Upon.refl _ _⟩
theorem Been.step {S S' : Nat → Prop} {p : Nat} {st : St} {a b c : World} (h : Been S S' a b) (k : Step S' p st b c) : Step S p st a c := by
  obtain ⟨⟨S'', k1, k2, k3⟩, ku⟩ := k
  refine ⟨⟨S'', k1, fun x hx => k2 x (h.sub x hx), fun x hx => ?_⟩, ?_⟩
  · rcases k3 x hx with h' | h'
    · exact h.new x h'
    · exact .inr (Nat.le_trans h.upon.size h')
  · refine h.upon.trans' ku fun i hi hs => ?_
    rcases h.new i hs with h' | h'
    · exact h'
    · omega
theorem Been.trans {S S' S'' : Nat → Prop} {a b c : World} (h : Been S S' a b) (k : Been S' S'' b c) : Been S S'' a c := by
  refine ⟨fun x hx => k.sub x (h.sub x hx), fun x hx => ?_, ?_⟩
  · rcases k.new x hx with h' | h'
    · exact h.new x h'
    · exact .inr (Nat.le_trans h.upon.size h')
  · refine h.upon.trans' k.upon fun i hi hs => ?_
    rcases h.new i hs with h' | h'
    · exact h'
    · omega

theorem DiskG.file {w : World} {S : Nat → Prop} {p : Nat} {st : St} {g : Ghost} (h : DiskG w S p st g) {k : Str} {i : Nat} (hi : lookN st.N k = some i) : ∃ f, st.F[i]? = some f ∧ FileAt w (blk g.fs i) (g.rows.getD i none) f.s f.lasts ∧ f.lasts ≤ f.s.length := by
  have hil : i < st.F.length := h.fine.nmN.ins _ (mem_of_look hi)
  exact ⟨_, List.getElem?_eq_getElem hil, h.files.file i _ (List.getElem?_eq_getElem hil), h.fine.lasts _ (List.getElem_mem _)⟩

/-- write, its answer known. -/
theorem wr_is (S : Nat → Prop) (p : Nat) (st : St) (w : World) (h : IsDisk w S p st) {b : Bool} (hb : wrB st = b) :
    Calls Try.prog 39 #[.pointer (some ⟨p, 0, none⟩)] w fun e w' => e = .returned (.bool b) ∧ Step S p (wrS st) w w' := by
  subst hb; exact wr_any S p st w h

theorem lasts_file {w : World} {f : Nat} {r : Option Nat} {l : Str} {n : Nat} (h : FileAt w f r l n) (m : Nat) : w.cell? ⟨f, 2, none⟩ = some (.int .i64 (n : Int)) ∧ w.frozen? ⟨f, 2, none⟩ = false ∧ Wrote f r l m w (w.setCell ⟨f, 2, none⟩ (.int .i64 (m : Int))) := by
  have hne := h.ne
  obtain ⟨p, v, hp, hb, hv⟩ := h
  exact ⟨by rw [Lib.cell_of_heap hb]; rfl, Lib.frozen_of_heap hb 2, ⟨r, ⟨p, v, hp, set2' hb, hv.kept fun g hg => Below.heap_setCell _ _ _ _ (fun e => hne (by rw [hg]; exact congrArg some e))⟩, .inl rfl⟩,
    (Upon.refl (fun k => k = f ∨ some k = r) w).setCell (p := ⟨f, 2, none⟩) (.inl (.inl rfl)) _⟩

theorem sync_step {w : World} {S : Nat → Prop} {p : Nat} {st : St} {g : Ghost} (h : DiskG w S p st g) {k : Str} {i : Nat} (hi : lookN st.N k = some i) {f : FileS} (hf : st.F[i]? = some f) {w' : World} (hw : Wrote (blk g.fs i) (g.rows.getD i none) f.s f.s.length w w') : Step S p (syncF st k) w w' := by
  unfold syncF
  rw [hi]
  exact h.wrote hf hw rfl (h.fine.modF i _ fun _ _ => Nat.le_refl _)

set_option maxHeartbeats 1600000 in
theorem sync_any (S : Nat → Prop) (p : Nat) (st : St) (s : ByteArray) (hs : s.size ≤ maxLen) (w : World) (h : IsDisk w S p st) :
    Calls Try.prog 21 #[.pointer (some ⟨p, 0, none⟩), .string s] w fun e w' => e = .returned (.int .i64 (syncE st s.data.toList)) ∧ Step S p (syncS st s.data.toList) w w' := by
  cases hb : wrB st with
  | false =>
    have e1 : syncE st s.data.toList = 11 := by simp [syncE, hb]
    have e2 : syncS st s.data.toList = wrS st := by simp [syncS, hb]
    rw [e1, e2]
    have HW := Lib.hid (wr_is S p st w h hb)
    clear h hb e1 e2
    go_enter Try.func21, Try.ntmps21
    go_wp2_with fail
    refine HW.out.mono ?_
    rintro e w1 ⟨rfl, hs1⟩
    replace hs1 := Lib.hid hs1
    go_wp2
    go_ret
    exact ⟨rfl, hs1.out⟩
  | true =>
    have HW := Lib.hid (wr_is S p st w h hb)
    have e2 : syncS st s.data.toList = syncF (wrS st) s.data.toList := by simp [syncS, hb]
    rw [e2]
    clear h e2
    cases hl : lookN st.N s.data.toList with
    | none =>
      have e1 : syncE st s.data.toList = 12 := by simp [syncE, hb, hl]
      have hl' : lookN (wrS st).N s.data.toList = none := by rw [wrS_N]; exact hl
      have e3 : syncF (wrS st) s.data.toList = wrS st := by unfold syncF; rw [hl']
      rw [e1, e3]
      have HL := Lib.hid hl'
      clear hb hl hl' e1 e3
      go_enter Try.func21, Try.ntmps21
      go_wp2_with fail
      refine HW.out.mono ?_
      rintro e w1 ⟨rfl, hs1⟩
      obtain ⟨S', g, hd, _⟩ := hs1.get
      obtain ⟨-, -, -, k3, -, -, -⟩ := c6 hd.cell
      have HM := Lib.hid hd.now
      replace hs1 := Lib.hid hs1
      clear hd
      go_wp2_with (at_lookup; refine wpList_look_none _ rfl _ _ rfl g.bn g.fs _ rfl HM.out s rfl hs HL.out ?_)
      go_ret
      exact ⟨rfl, hs1.out⟩
    | some i =>
      have e1 : syncE st s.data.toList = 0 := by simp [syncE, hb, hl]
      have hl' : lookN (wrS st).N s.data.toList = some i := by rw [wrS_N]; exact hl
      rw [e1]
      have HL := Lib.hid hl'
      clear hb hl hl' e1
      go_enter Try.func21, Try.ntmps21
      go_wp2_with fail
      refine HW.out.mono ?_
      rintro e w1 ⟨rfl, hs1⟩
      obtain ⟨S', g, hd, hbn⟩ := hs1.get
      obtain ⟨-, -, -, k3, -, -, -⟩ := c6 hd.cell
      obtain ⟨f, hf, hfile, hll⟩ := hd.file HL.out
      obtain ⟨c2, f2, hwr⟩ := lasts_file hfile f.s.length
      have HM := Lib.hid hd.now
      have HN := Lib.hid (len_any _ _ _ _ w1 hfile)
      have HX := Lib.hid (hbn.step (sync_step hd HL.out hf hwr))
      clear hd hs1 hf hfile hwr hll hbn
      go_wp2_with (at_lookup; refine wpList_look_some _ rfl _ _ rfl g.bn g.fs _ rfl HM.out s rfl hs i HL.out ?_)
      refine HN.out.mono ?_
      rintro e w2 ⟨rfl, rfl⟩
      go_wp2
      go_ret
      exact ⟨rfl, HX.out⟩

set_option maxHeartbeats 1600000 in
theorem read_any (S : Nat → Prop) (p : Nat) (st : St) (s : ByteArray) (hs : s.size ≤ maxLen) (w : World) (h : IsDisk w S p st) :
    Calls Try.prog 11 #[.pointer (some ⟨p, 0, none⟩), .string s] w fun e w' => e = .returned (.tuple #[.string ⟨(readA st s.data.toList).toArray⟩, .int .i64 (readE st s.data.toList)]) ∧ Step S p st w w' := by
  have hst := h
  obtain ⟨g, h⟩ := h
  obtain ⟨-, k1, -, k3, -, -, -⟩ := c6 h.cell
  cases hd : st.dead with
  | true =>
    have e1 : readE st s.data.toList = 11 := by simp [readE, hd]
    have e2 : readA st s.data.toList = [] := by simp [readA, hd]
    rw [e1, e2]
    rw [hd] at k1
    simp only [Bool.not_true] at k1
    have HS := Lib.hid (Step.same hst)
    clear h hd e1 e2 hst
    go_enter Try.func11, Try.ntmps11
    go_wp2
    go_ret2
    exact ⟨rfl, HS.out⟩
  | false =>
    rw [hd] at k1
    simp only [Bool.not_false] at k1
    have HM := Lib.hid h.now
    cases hl : lookN st.N s.data.toList with
    | none =>
      have e1 : readE st s.data.toList = 12 := by simp [readE, hd, hl]
      have e2 : readA st s.data.toList = [] := by simp [readA, hd, hl]
      rw [e1, e2]
      have HS := Lib.hid (Step.same hst)
      have HL := Lib.hid hl
      clear h hd hl e1 e2 hst
      go_enter Try.func11, Try.ntmps11
      go_wp2_with (at_lookup; refine wpList_look_none _ rfl _ _ rfl g.bn g.fs _ rfl HM.out s rfl hs HL.out ?_)
      go_ret2
      exact ⟨rfl, HS.out⟩
    | some i =>
      obtain ⟨f, hf, hfile, hll⟩ := h.file hl
      have e1 : readE st s.data.toList = 0 := by simp [readE, hd, hl]
      have e2 : readA st s.data.toList = f.s := by simp [readA, hd, hl, List.getD_eq_getElem?_getD, hf]
      rw [e1, e2]
      have HS := Lib.hid (string_any _ _ _ _ w hfile)
      have HL := Lib.hid hl
      have HX := Lib.hid (fun w' (hw : Wrote (blk g.fs i) (g.rows.getD i none) f.s f.lasts w w') => h.wroteSame hf hw)
      clear h hd hl e1 e2 hst hf hfile hll
      go_enter Try.func11, Try.ntmps11
      go_wp2_with (at_lookup; refine wpList_look_some _ rfl _ _ rfl g.bn g.fs _ rfl HM.out s rfl hs i HL.out ?_)
      refine HS.out.mono ?_
      rintro e w2 ⟨rfl, hf2, hu2⟩
      have H := Lib.hid (HX.out w2 ⟨⟨_, hf2, .inl rfl⟩, hu2.mono fun _ _ h => .inr h⟩)
      clear hf2 hu2
      go_wp2
      go_ret2
      exact ⟨rfl, H.out⟩

/-! ### what a name is -/
def signN (n : Int) : Bool := decide (97 ≤ n) && decide (n ≤ 122) || (decide (48 ≤ n) && decide (n ≤ 57)) || decide (n = 46) || decide (n = 45)
theorem sign_of (c : UInt8) : isSign c = signN (c.toNat : Int) := by
  have h1 : ∀ k : UInt8, decide (k ≤ c) = decide ((k.toNat : Int) ≤ c.toNat) := fun k => by rw [Bool.eq_iff_iff]; simp [UInt8.le_iff_toNat_le]
  have h2 : ∀ k : UInt8, decide (c ≤ k) = decide ((c.toNat : Int) ≤ k.toNat) := fun k => by rw [Bool.eq_iff_iff]; simp [UInt8.le_iff_toNat_le]
  have h3 : ∀ k : UInt8, (c == k) = decide ((c.toNat : Int) = k.toNat) := fun k => by
    rw [Bool.eq_iff_iff]; simp [← UInt8.toNat_inj]; omega
  unfold isSign signN
  rw [h1, h2, h1, h2, h3, h3]
  rfl
theorem sign_class (n : Int) : (97 ≤ n ∧ n ≤ 122) ∨ (48 ≤ n ∧ n ≤ 57) ∨ n = 46 ∨ n = 45 ∨ 122 < n ∨ (57 < n ∧ n < 97) ∨ n = 47 ∨ n < 45 := by omega

set_option maxHeartbeats 1600000 in
theorem signN_any (n : Int) (w : World) : Calls Try.prog 58 #[.int .u8 n] w fun e w' => e = .returned (.bool (signN n)) ∧ w = w' := by
  rcases sign_class n with ⟨h1, h2⟩ | ⟨h1, h2⟩ | rfl | rfl | h1 | ⟨h1, h2⟩ | rfl | h1
  · have e : signN n = true := by simp [signN]; omega
    rw [e]
    clear e
    go_enter Try.func58, Try.ntmps58
    go_wp2
    go_ret
    exact ⟨rfl, rfl⟩
  · have e : signN n = true := by simp [signN]; omega
    rw [e]
    clear e
    have e1 : ¬ 97 ≤ n := by omega
    go_enter Try.func58, Try.ntmps58
    go_wp2
    go_ret
    exact ⟨rfl, rfl⟩
  · go_enter Try.func58, Try.ntmps58
    go_wp2
    go_ret
    exact ⟨rfl, rfl⟩
  · go_enter Try.func58, Try.ntmps58
    go_wp2
    go_ret
    exact ⟨rfl, rfl⟩
  · have e : signN n = false := by simp [signN]; omega
    rw [e]
    clear e
    have e0 : 97 ≤ n := by omega
    have e1 : ¬ n ≤ 122 := by omega
    have e2 : 48 ≤ n := by omega
    have e3 : ¬ n ≤ 57 := by omega
    have e4 : (n == 46) = false := by simp; omega
    have e5 : (n == 45) = false := by simp; omega
    go_enter Try.func58, Try.ntmps58
    go_wp2
    go_ret
    exact ⟨rfl, rfl⟩
  · have e : signN n = false := by simp [signN]; omega
    rw [e]
    clear e
    have e0 : ¬ 97 ≤ n := by omega
    have e2 : 48 ≤ n := by omega
    have e3 : ¬ n ≤ 57 := by omega
    have e4 : (n == 46) = false := by simp; omega
    have e5 : (n == 45) = false := by simp; omega
    go_enter Try.func58, Try.ntmps58
    go_wp2
    go_ret
    exact ⟨rfl, rfl⟩
  · go_enter Try.func58, Try.ntmps58
    go_wp2
    go_ret
    exact ⟨rfl, rfl⟩
  · have e : signN n = false := by simp [signN]; omega
    rw [e]
    clear e
    have e0 : ¬ 97 ≤ n := by omega
    have e2 : ¬ 48 ≤ n := by omega
    have e4 : (n == 46) = false := by simp; omega
    have e5 : (n == 45) = false := by simp; omega
    go_enter Try.func58, Try.ntmps58
    go_wp2
    go_ret
    exact ⟨rfl, rfl⟩
theorem sign_any (c : UInt8) (w : World) : Calls Try.prog 58 #[.int .u8 (c.toNat : Int)] w fun e w' => e = .returned (.bool (isSign c)) ∧ w = w' := by
  rw [sign_of]; exact signN_any _ w
theorem sign_is (c : UInt8) {b : Bool} (h : isSign c = b) (w : World) : Calls Try.prog 58 #[.int .u8 (c.toNat : Int)] w fun e w' => e = .returned (.bool b) ∧ w = w' := by
  rw [← h]; exact sign_any c w

theorem name_long {l : Str} (h : 32 < l.length) : isName l = false := by unfold isName; simp; intro _ h2; omega
theorem name_nil : isName [] = false := rfl
theorem name_all {l : Str} (h0 : 1 ≤ l.length) (h : l.length ≤ 32) : isName l = l.all isSign := by unfold isName; simp [h0, h]

/-- A call that answers v and leaves the world alone. -/
def Ans (v : Value) (w : World) (e : Ending) (w' : World) : Prop := e = .returned v ∧ w = w'

theorem toList_is (s : ByteArray) : s.toList = s.data.toList := ByteArray.toList_eq s

set_option maxHeartbeats 1600000 in
theorem name_any (s : ByteArray) (hs : s.size ≤ maxLen) (w : World) : Calls Try.prog 40 #[.string s] w (Ans (.bool (isName s.data.toList)) w) := by
  unfold maxLen at hs
  by_cases h0 : s.size = 0
  · have e1 : s.data.toList = [] := List.eq_nil_of_length_eq_zero (by simpa using h0)
    rw [e1, name_nil]
    have e2 : s = ByteArray.empty := by
      cases s with | mk d => simp at e1; simp [e1]; rfl
    subst e2
    clear h0 e1 hs
    go_enter Try.func40, Try.ntmps40
    go_wp2
    go_ret
    exact ⟨rfl, rfl⟩
  · have e1 : ¬ s.toList = [] := by
      rw [toList_is]; intro hh
      have e : s.size = s.data.toList.length := by simp
      rw [hh] at e
      exact h0 e
    have e0 : s.toList.isEmpty = false := by
      cases hh : s.toList with
      | nil => exact absurd hh e1
      | cons a r => rfl
    by_cases h1 : 32 < s.size
    · rw [name_long (by simpa using h1)]
      have h1' : decide ((32 : Int) < (s.size : Int)) = true := decide_eq_true (by omega)
      go_enter Try.func40, Try.ntmps40
      go_wp2
      go_ret
      exact ⟨rfl, rfl⟩
    · rw [name_all (by simp; omega) (by simp; omega)]
      have h1' : decide ((32 : Int) < (s.size : Int)) = false := decide_eq_false (by omega)
      obtain ⟨l, hl⟩ : ∃ l, l = s.data.toList := ⟨_, rfl⟩
      rw [← hl]
      have HL := Lib.hid hl
      clear hl
      go_enter Try.func40, Try.ntmps40
      go_wp2
      go_loop [13] (fun i => ∃ k : Nat, k ≤ s.size ∧ i = .int .i64 k ∧ ((l.take k).all isSign = true)) (fun i => s.size - (intOf i).toNat)
      case atStart => exact ⟨0, Nat.zero_le _, rfl, rfl⟩
      case round =>
        obtain ⟨k, hk, rfl, hall⟩ := hrel
        replace hall := Lib.hid hall
        by_cases hlt : k < s.size
        · have hts : l.take (k + 1) = l.take k ++ [s[k]] := by rw [HL.out, List.take_succ_eq_append_getElem (by simpa using hlt)]; rfl
          cases hsg : isSign s[k] with
          | true =>
            have HA := Lib.hid (show (l.take (k + 1)).all isSign = true by rw [hts, List.all_append, hall.out]; simp [hsg])
            have HC := Lib.hid (fun w => sign_is s[k] hsg w)
            clear hts hsg
            go_wp2_with fail
            refine (HC.out _).mono ?_
            rintro e w1 ⟨rfl, rfl⟩
            go_wp2
            go_round
            case rel => exact ⟨k + 1, by omega, by go_num, HA.out⟩
            case measure => simp [intOf]; omega
          | false =>
            have HA := Lib.hid (show l.all isSign = false by
              rw [Bool.eq_false_iff]
              intro h
              have hm : s[k] ∈ l := by
                have : s[k] ∈ l.take (k + 1) := by rw [hts]; simp
                exact List.mem_of_mem_take this
              have := List.all_eq_true.1 h _ hm
              rw [hsg] at this; cases this)
            have HC := Lib.hid (fun w => sign_is s[k] hsg w)
            clear hts hsg
            go_wp2_with fail
            refine (HC.out _).mono ?_
            rintro e w1 ⟨rfl, rfl⟩
            go_wp2
            go_ret
            exact ⟨by rw [HA.out]; rfl, rfl⟩
        · obtain rfl : k = s.size := by omega
          have HA := Lib.hid (show l.all isSign = true by
            have h := hall.out
            rw [List.take_of_length_le (by rw [HL.out]; simp)] at h
            exact h)
          go_wp2
          go_ret
          exact ⟨by rw [HA.out]; rfl, rfl⟩
theorem name_is (s : ByteArray) (hs : s.size ≤ maxLen) {b : Bool} (h : isName s.data.toList = b) (w : World) : Calls Try.prog 40 #[.string s] w fun e w' => e = .returned (.bool b) ∧ w = w' := by
  rw [← h]; exact name_any s hs w
end Dsk
end Go.Proofs.Ytfpphahdbhelcaa
