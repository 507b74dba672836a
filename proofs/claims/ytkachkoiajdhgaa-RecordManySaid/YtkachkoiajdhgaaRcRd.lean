/- The program's reader of records (layer 12): numbers, times, labels, matchers. -/
import Derived.Test.YtkachkoiajdhgaaRcThr
import Derived.Test.YtkachkoiajdhgaaRcDec
import Derived.Test.YtkachkoiajdhgaaPLb2
import Derived.Test.YtkachkoiajdhgaaPMt2
set_option maxRecDepth 100000
namespace Go.Proofs.Ytkachkoiajdhgaa
open Go.RowKit Go.Sort
namespace Rc
open Bit Dsk Ob Dig Lb
set_option linter.unusedVariables false

/-- How a step of the reader ends: what is read, or an error that is thrown. -/
def Got {α : Type} (x : Rd α) (s : ByteArray) (J : Ob.Rel) (w0 : World) (ok : α → ByteArray → Ending → World → Prop) (r : Ending) (w' : World) : Prop :=
  (∃ a s', x s.data.toList = .ok (a, s'.data.toList) ∧ s'.size ≤ 140737488355328 ∧ ok a s' r w') ∨ (∃ e : Nat, x s.data.toList = .error e ∧ r = Thrown e ∧ Own J w0 w')
/-- The matchers that were read. -/
def MsO (u : Value) (l : List Mt.M) : Ob.Rel := fun w S => Mt.View w S u l ∧ ∀ x, S x → x < w.heap.size
theorem row_keep {α : Type} {L : Rw.Lay α} {w w' : World} {S : Nat → Prop} (hk : ∀ b, S b → w'.heap[b]? = w.heap[b]?) {u : Value} {l : List α} (h : Rw.View L w S u l) : Rw.View L w' S u l :=
  let ⟨A, c, h1, h2, h3, h4⟩ := h
  ⟨A, c, h1, h2, h3, fun hp => let ⟨b, off, k1, k2, k3⟩ := h4 hp
    ⟨b, off, k1, k2, fun i hi t u ht => by rw [← k3 i hi t u ht, World.cell?, World.cell?, hk b k2]⟩⟩
theorem thingMs (u : Value) (l : List Mt.M) : Thing (MsO u l) := ⟨fun w w' S h hk hs => ⟨row_keep hk h.1, fun x hx => Nat.lt_of_lt_of_le (h.2 x hx) hs⟩, fun w S h x hx => h.2 x hx⟩
theorem msMade {I : Ob.Rel} (hI : Thing I) {w0 w w' : World} (H : Own I w0 w) {u : Value} {l : List Mt.M} (hv : Mt.View w' (Nw w) u l) (hu : New0 w w') : Own (Tens I (MsO u l)) w0 w' :=
  Own.new hI H (T := fun x => w.heap.size ≤ x ∧ x < w'.heap.size) ⟨hv.mono fun b hb h => ⟨h, hb⟩, fun x hx => hx.2⟩ (fun x hx => hx.1) hu
theorem rdCell {J : Ob.Rel} {p : Nat} {s : ByteArray} {w0 w : World} (h : Own (Tens (RdO p s) J) w0 w) : w.cell? ⟨p, 0, none⟩ = some (.string s) ∧ w.frozen? ⟨p, 0, none⟩ = false := let ⟨A, hA⟩ := h.seeL; rdSee hA
section
variable {J : Ob.Rel} {p : Nat} {s : ByteArray} {w0 w : World}
theorem rdPass (hJ : Thing J) (h : Own (Tens (RdO p s) J) w0 w) (hs : s.size ≤ 140737488355328) (k : Nat) (hk : k ≤ s.size) :
    Calls Try.prog 68 #[.pointer (some ⟨p, 0, none⟩), .int .i64 (k : Int), .int .i64 0] w fun r w' => r = .returned (.tuple #[]) ∧ Own (Tens (RdO p (s.extract k s.size)) J) w0 w' :=
  ownL (Q := fun r => r = .returned (.tuple #[])) hJ h fun A _ hA => pass_ok p s k hk (by omega) w A hA
set_option maxHeartbeats 1600000 in
theorem rdNumber (hJ : Thing J) (h : Own (Tens (RdO p s) J) w0 w) (hs : s.size ≤ 140737488355328) :
    Calls Try.prog 56 #[.pointer (some ⟨p, 0, none⟩)] w (Got numR s J w0 fun n s' r w' => r = .returned (.int .u64 (n : Int)) ∧ n < 18446744073709551616 ∧ Own (Tens (RdO p s') J) w0 w') := by
  obtain ⟨n, k, x, hg⟩ : ∃ n k x, gotN s.data.toList = (n, k, x) := ⟨_, _, _, rfl⟩
  have hks : k ≤ s.size := by
    have := (gotN_lt s.data.toList).2.2.1
    rw [hg] at this
    simpa using this
  have hn64 : n < 18446744073709551616 := by
    have := (gotN_lt s.data.toList).1
    rw [hg] at this
    exact this
  have HG : Hid (∀ w, Calls Try.prog 67 #[.string s] w fun e w' => e = .returned (.tuple #[.int .u64 (n : Int), .int .i64 (k : Int), .int .i64 (x : Int)]) ∧ New0 w w') := Lib.hid fun w => by
    have := Dig.get_any s (by omega) w
    rw [hg] at this
    exact this.mono fun e w' ⟨h1, h2⟩ => ⟨h1, newOf h2⟩
  have hnx := (nx_num hg).1 rfl
  have hs1 : (s.extract k s.size).size ≤ 140737488355328 := Nat.le_trans (ext_size _ _ _) hs
  have HP := Lib.hid (fun w h => rdPass (p := p) (w := w) (w0 := w0) hJ h hs k hks)
  have hI := Tens.ob (thingRd p s) hJ
  obtain ⟨c0, f0⟩ := rdCell h
  replace h := Lib.hid h
  clear hg
  rcases hnx with ⟨hx, hR⟩ | ⟨hx, hR⟩
  · subst hx
    replace hR := Lib.hid hR
    go_enter Try.func56, Try.ntmps56
    go_wp2_with fail
    refine (HG.out _).mono ?_
    rintro e w2 ⟨rfl, hu⟩
    have h2 := Lib.hid (h.out.upon0 hI hu)
    clear HG h hu c0 f0
    go_wp2_with fail
    refine (HP.out _ h2.out).mono ?_
    rintro e w3 ⟨rfl, h3⟩
    replace h3 := Lib.hid h3
    clear HP h2
    go_wp2_with fail
    go_ret
    exact .inl ⟨n, _, hR.out, hs1, rfl, hn64, h3.out⟩
  · replace hR := Lib.hid hR
    have HN := Lib.hid (pass_no p (k : Int) x hx)
    go_enter Try.func56, Try.ntmps56
    go_wp2_with fail
    refine (HG.out _).mono ?_
    rintro e w2 ⟨rfl, hu⟩
    have h2 := Lib.hid (h.out.upon0 hI hu)
    clear HG h hu c0 f0
    go_wp2_with fail
    refine (HN.out _).mono ?_
    rintro e w3 ⟨rfl, rfl⟩
    exact ⟨rfl, .inr ⟨x, hR.out, rfl, h2.out.dropl⟩⟩
set_option maxHeartbeats 1600000 in
theorem rdTime (hJ : Thing J) (h : Own (Tens (RdO p s) J) w0 w) (hs : s.size ≤ 140737488355328) :
    Calls Try.prog 59 #[.pointer (some ⟨p, 0, none⟩)] w (Got sgnR s J w0 fun n s' r w' => r = .returned (.int .i64 n) ∧ (-9223372036854775808 ≤ n ∧ n ≤ 9223372036854775807) ∧ Own (Tens (RdO p s') J) w0 w') := by
  obtain ⟨n, k, x, hg⟩ : ∃ n k x, gotN s.data.toList = (n, k, x) := ⟨_, _, _, rfl⟩
  have hks : k ≤ s.size := by
    have := (gotN_lt s.data.toList).2.2.1
    rw [hg] at this
    simpa using this
  have hn64 : n < 18446744073709551616 := by
    have := (gotN_lt s.data.toList).1
    rw [hg] at this
    exact this
  have hzr : -9223372036854775808 ≤ unz n ∧ unz n ≤ 9223372036854775807 := by unfold unz; split <;> omega
  have hnx := (nx_sgn hg).1 rfl
  have HG0 : ∀ w, Calls Try.prog 71 #[.string s] w fun e w' => e = .returned (.tuple #[.int .i64 (unz n), .int .i64 (k : Int), .int .i64 (x : Int)]) ∧ New0 w w' := fun w => by
    have := Dig.getsigned_any s (by omega) w
    rw [hg] at this
    exact this.mono fun e w' ⟨h1, h2⟩ => ⟨h1, newOf h2⟩
  obtain ⟨z, hz⟩ : ∃ z, unz n = z := ⟨_, rfl⟩
  rw [hz] at HG0 hnx hzr
  have HG := Lib.hid HG0
  have hs1 : (s.extract k s.size).size ≤ 140737488355328 := Nat.le_trans (ext_size _ _ _) hs
  have HP := Lib.hid (fun w h => rdPass (p := p) (w := w) (w0 := w0) hJ h hs k hks)
  have hI := Tens.ob (thingRd p s) hJ
  obtain ⟨c0, f0⟩ := rdCell h
  replace h := Lib.hid h
  clear hg hz hn64 HG0
  rcases hnx with ⟨hx, hR⟩ | ⟨hx, hR⟩
  · subst hx
    replace hR := Lib.hid hR
    replace hzr := Lib.hid hzr
    go_enter Try.func59, Try.ntmps59
    go_wp2_with fail
    refine (HG.out _).mono ?_
    rintro e w2 ⟨rfl, hu⟩
    have h2 := Lib.hid (h.out.upon0 hI hu)
    clear HG h hu c0 f0
    go_wp2_with fail
    refine (HP.out _ h2.out).mono ?_
    rintro e w3 ⟨rfl, h3⟩
    replace h3 := Lib.hid h3
    clear HP h2
    go_wp2_with fail
    go_ret
    exact .inl ⟨z, _, hR.out, hs1, rfl, hzr.out, h3.out⟩
  · replace hR := Lib.hid hR
    have HN := Lib.hid (pass_no p (k : Int) x hx)
    go_enter Try.func59, Try.ntmps59
    go_wp2_with fail
    refine (HG.out _).mono ?_
    rintro e w2 ⟨rfl, hu⟩
    have h2 := Lib.hid (h.out.upon0 hI hu)
    clear HG h hu c0 f0 hzr
    go_wp2_with fail
    refine (HN.out _).mono ?_
    rintro e w3 ⟨rfl, rfl⟩
    exact ⟨rfl, .inr ⟨x, hR.out, rfl, h2.out.dropl⟩⟩
/-- Labels, out of a text. -/
noncomputable def labsR : Rd (List Pr) := bnd (txtR 1024) labR
set_option maxHeartbeats 3200000 in
theorem rdLabels (hJ : Thing J) (h : Own (Tens (RdO p s) J) w0 w) (hs : s.size ≤ 140737488355328) :
    Calls Try.prog 73 #[.pointer (some ⟨p, 0, none⟩)] w (Got labsR s J w0 fun ls s' r w' => ∃ sl : Rw.Sl, r = .returned sl.v ∧ (Sml ls ∧ ls.length * 32 ≤ 140737488351232) ∧ Own (Tens (RdO p s') (Tens J (LabO sl ls))) w0 w') := by
  obtain ⟨n, k, x, hg⟩ : ∃ n k x, gotT s.data.toList 1024 = (n, k, x) := ⟨_, _, _, rfl⟩
  have hks : k + n ≤ s.size := by
    have := gotT_le hg
    simpa using this
  have hnx := (nx_txt hg).1 rfl
  have HG0 : ∀ w, Calls Try.prog 80 #[.string s, .int .i64 1024] w fun e w' => e = .returned (.tuple #[.string (s.extract k (k + n)), .int .i64 ((k + n : Nat) : Int), .int .i64 (x : Int)]) ∧ New0 w w' := fun w => by
    have := Dig.gettext_any s 1024 (by omega) (by decide) w
    rw [hg] at this
    exact this.mono fun e w' ⟨h1, h2⟩ => ⟨by rw [h1, Int.natCast_add], newOf h2⟩
  have hs1 : (s.extract (k + n) s.size).size ≤ 140737488355328 := Nat.le_trans (ext_size _ _ _) hs
  have ht0 : (s.extract k (k + n)).size ≤ 140737488355328 := Nat.le_trans (ext_size _ _ _) hs
  have HP0 := fun w h => rdPass (p := p) (w := w) (w0 := w0) hJ h hs (k + n) hks
  obtain ⟨kn, hkn⟩ : ∃ kn, k + n = kn := ⟨_, rfl⟩
  obtain ⟨t, ht⟩ : ∃ t, s.extract k kn = t := ⟨_, rfl⟩
  rw [hkn] at HG0 hnx hs1 HP0 ht0
  rw [ht] at HG0 hnx ht0
  have HG := Lib.hid HG0
  have HP := Lib.hid HP0
  have hI := Tens.ob (thingRd p s) hJ
  have hI2 := Lib.hid (fun s => Tens.ob (thingRd p s) hJ)
  obtain ⟨c0, f0⟩ := rdCell h
  replace h := Lib.hid h
  clear hg hks hkn ht HG0 HP0
  rcases hnx with ⟨hx, hR⟩ | ⟨hx, hR⟩
  · subst hx
    obtain ⟨⟨ls, e7⟩, hde⟩ : ∃ x, Lb.dec t.data.toList = x := ⟨_, rfl⟩
    have HD := Lib.hid (fun w => Lb.decode_e w t ht0)
    have hnl := (nx_lab t (s.extract kn s.size)).1 rfl
    unfold Lb.DecE at HD
    rw [hde] at HD hnl
    simp only at HD hnl
    have hlb := Lib.hid (dec_bnd hde)
    clear hde ht0
    rcases hnl with ⟨hx7, hR7⟩ | ⟨hx7, hR7⟩
    · subst hx7
      have HT := Lib.hid throw_ok
      have hRR : Hid (labsR s.data.toList = .ok (ls, (s.extract kn s.size).data.toList)) := Lib.hid (by unfold labsR; rw [bnd_ok hR]; exact hR7)
      clear hR hR7
      go_enter Try.func73, Try.ntmps73
      go_wp2_with fail
      refine (HG.out _).mono ?_
      rintro e w2 ⟨rfl, hu⟩
      have h2 := Lib.hid (h.out.upon0 hI hu)
      clear HG h hu c0 f0
      go_wp2_with fail
      refine (HP.out _ h2.out).mono ?_
      rintro e w3 ⟨rfl, h3⟩
      replace h3 := Lib.hid h3
      clear HP h2
      go_wp2_with fail
      refine (HD.out _).mono ?_
      rintro e w4 ⟨v, rfl, hv, hu4⟩
      obtain ⟨A, c, rfl, -, -⟩ := Rw.View.shape hv
      have h4 := Lib.hid (labMade (s := ⟨A, ls.length, c⟩) (hI2.out _) h3.out hv hu4).assoc
      clear HD h3 hv hu4
      go_wp2_with fail
      refine (HT.out _).mono ?_
      rintro e w5 ⟨rfl, rfl⟩
      clear HT
      go_wp2_with fail
      go_ret
      exact .inl ⟨ls, _, hRR.out, hs1, ⟨A, ls.length, c⟩, rfl, hlb.out, h4.out⟩
    · have HT := Lib.hid (throw_no e7 hx7)
      have hRR : Hid (labsR s.data.toList = .error e7) := Lib.hid (by unfold labsR; rw [bnd_ok hR]; exact hR7)
      clear hR hR7
      go_enter Try.func73, Try.ntmps73
      go_wp2_with fail
      refine (HG.out _).mono ?_
      rintro e w2 ⟨rfl, hu⟩
      have h2 := Lib.hid (h.out.upon0 hI hu)
      clear HG h hu c0 f0
      go_wp2_with fail
      refine (HP.out _ h2.out).mono ?_
      rintro e w3 ⟨rfl, h3⟩
      replace h3 := Lib.hid h3
      clear HP h2
      go_wp2_with fail
      refine (HD.out _).mono ?_
      rintro e w4 ⟨v, rfl, hv, hu4⟩
      have h4 := Lib.hid (h3.out.dropl.upon0 hJ hu4)
      clear HD h3 hv hu4
      go_wp2_with fail
      refine (HT.out _).mono ?_
      rintro e w5 ⟨rfl, rfl⟩
      exact ⟨rfl, .inr ⟨e7, hRR.out, rfl, h4.out⟩⟩
  · have hRR : Hid (labsR s.data.toList = .error x) := Lib.hid (by unfold labsR; rw [bnd_no hR])
    have HN := Lib.hid (pass_no p (kn : Int) x hx)
    clear hR
    go_enter Try.func73, Try.ntmps73
    go_wp2_with fail
    refine (HG.out _).mono ?_
    rintro e w2 ⟨rfl, hu⟩
    have h2 := Lib.hid (h.out.upon0 hI hu)
    clear HG h hu c0 f0
    go_wp2_with fail
    refine (HN.out _).mono ?_
    rintro e w3 ⟨rfl, rfl⟩
    exact ⟨rfl, .inr ⟨x, hRR.out, rfl, h2.out.dropl⟩⟩
theorem tk_drop {sl r : List UInt8} {l : List Mt.M} (h : Mt.tk sl = (l, r, 0)) : sl.drop (sl.length - r.length) = r := by
  have := (Mt.tk_back h).2
  rw [← this]
  simp
set_option maxHeartbeats 3200000 in
theorem rdMatches (hJ : Thing J) (h : Own (Tens (RdO p s) J) w0 w) (hs : s.size ≤ 140737488355328) :
    Calls Try.prog 58 #[.pointer (some ⟨p, 0, none⟩)] w (Got takeR s J w0 fun l s' r w' => ∃ u : Value, r = .returned u ∧ Mt.chk l = 0 ∧ Own (Tens (RdO p s') (Tens J (MsO u l))) w0 w') := by
  obtain ⟨⟨l, r, x⟩, htk⟩ : ∃ y, Mt.tk s.data.toList = y := ⟨_, rfl⟩
  have HG0 := fun w => Mt.gete_new w s hs
  unfold Mt.GetN at HG0
  have hsl : s.data.toList.length = s.size := by simp
  have hI := Tens.ob (thingRd p s) hJ
  obtain ⟨c0, f0⟩ := rdCell h
  replace h := Lib.hid h
  by_cases hx : x = 0
  · subst hx
    have hd := tk_drop htk
    have hle := Mt.tk_len htk
    rw [Mt.got_ok htk] at HG0
    simp only at HG0
    rw [hsl] at HG0 hd hle
    obtain ⟨k, hk⟩ : ∃ k, s.size - r.length = k := ⟨_, rfl⟩
    rw [hk] at HG0 hd
    have hks : k ≤ s.size := by omega
    have hR : Hid (takeR s.data.toList = .ok (l, (s.extract k s.size).data.toList)) := Lib.hid (by unfold takeR; rw [htk, Lb.drop_list, hd]; simp)
    have hs1 : (s.extract k s.size).size ≤ 140737488355328 := Nat.le_trans (ext_size _ _ _) hs
    have HP := Lib.hid (fun u w h => rdPass (p := p) (J := Tens J (MsO u l)) (w := w) (w0 := w0) (Tens.ob hJ (thingMs _ _)) h hs k hks)
    have hc := (Mt.tk_back htk).1
    replace hc := Lib.hid hc
    have HG := Lib.hid HG0
    clear htk hd hk hle hsl HG0
    go_enter Try.func58, Try.ntmps58
    go_wp2_with fail
    refine (HG.out _).mono ?_
    rintro e w2 ⟨u, rfl, hv, hu⟩
    have h2 := Lib.hid (msMade hI h.out hv hu).assoc
    clear HG h hu hv c0 f0
    go_wp2_with fail
    refine (HP.out _ _ h2.out).mono ?_
    rintro e w3 ⟨rfl, h3⟩
    replace h3 := Lib.hid h3
    clear HP h2
    go_wp2_with fail
    go_ret
    exact .inl ⟨l, _, hR.out, hs1, u, rfl, hc.out, h3.out⟩
  · rw [Mt.got_no (x := x) (by rw [htk]) hx] at HG0
    simp only at HG0
    have hR : Hid (takeR s.data.toList = .error x) := Lib.hid (by unfold takeR; rw [htk, if_neg hx])
    have HG := Lib.hid HG0
    have HN := Lib.hid (fun k => pass_no p k x hx)
    clear htk hsl HG0
    go_enter Try.func58, Try.ntmps58
    go_wp2_with fail
    refine (HG.out _).mono ?_
    rintro e w2 ⟨u, rfl, hv, hu⟩
    have h2 := Lib.hid (h.out.upon0 hI hu)
    clear HG h hu hv c0 f0
    go_wp2_with fail
    refine (HN.out _ _).mono ?_
    rintro e w3 ⟨rfl, rfl⟩
    exact ⟨rfl, .inr ⟨x, hR.out, rfl, h2.out.dropl⟩⟩
end
end Rc
end Go.Proofs.Ytkachkoiajdhgaa
