/- Parts: PRc3. -/
import Derived.Test.YtgmnhodajngchaaGreatDoorSPRow
import Derived.Test.YtgmnhodajngchaaGreatDoorSPDig
import Derived.Laws.Panics
import Derived.Test.YtgmnhodajngchaaGreatDoorSPRc1
import Derived.Test.YtgmnhodajngchaaGreatDoorSPLb2
import Derived.Test.YtgmnhodajngchaaGreatDoorSPMt2
set_option maxRecDepth 100000
set_option linter.unusedSimpArgs false
set_option linter.unusedVariables false
namespace Go.Proofs.YtgmnhodajngchaaGreatDoor
section
section
open Go.RowKit Go.Sort
namespace Rc
open Bit Dsk Ob Dig
abbrev Thrown (e : Nat) : Ending := .panicked [{ v := .iface 26 (.int .i64 (e : Int)), recovered := false }]
def RdO (p : Nat) (s : ByteArray) : Ob.Rel := fun w S => w.heap[p]? = some (.cells #[.string s] 240 (0, 0)) /\ ∀ x, S x ↔ x = p
theorem thingRd (p : Nat) (s : ByteArray) : Thing (RdO p s) := ⟨fun w w' S h hk _ => ⟨(hk p ((h.2 p).2 rfl)).trans h.1, h.2⟩, fun w S h x hx => by rw [(h.2 x).1 hx]; exact (Array.getElem?_eq_some_iff.1 h.1).1⟩
theorem rdSee {p : Nat} {s : ByteArray} {w : World} {S : Nat -> Prop} (h : RdO p s w S) : w.cell? ⟨p, 0, none⟩ = some (.string s) /\ w.frozen? ⟨p, 0, none⟩ = false :=
 ⟨by rw [Lib.cell_of_heap h.1]; rfl, by simp [World.frozen?, h.1]⟩
theorem rdSet {p : Nat} {s : ByteArray} {w : World} {S : Nat -> Prop} (h : RdO p s w S) (t : ByteArray) : ObjStep (RdO p t) S w (w.setCell ⟨p, 0, none⟩ (.string t)) :=
 ⟨⟨S, ⟨by have := h.1; simp [World.setCell, Array.getElem?_modify, this], h.2⟩, fun _ h => h, fun _ h => .inl h⟩, Upon.setCell (p := ⟨p, 0, none⟩) (Upon.refl S w) (.inl ((h.2 p).2 rfl)) (.string t)⟩
theorem throw_ok (w : World) : Calls Tryz.prog 154 #[.int .i64 0] w fun r w' => r = .returned (.tuple #[]) /\ w' = w := by
 go_enter Tryz.func154, Tryz.ntmps154
 go_wp2
 go_end0
 exact ⟨rfl, rfl⟩
theorem throw_no (e : Nat) (he : e ≠ 0) (w : World) : Calls Tryz.prog 154 #[.int .i64 (e : Int)] w fun r w' => r = Thrown e /\ w' = w := by
 have d : ((e : Int) != 0) = true := by rw [bne_iff_ne]; omega
 go_enter Tryz.func154, Tryz.ntmps154
 go_wp2
 exact ⟨rfl, rfl, rfl⟩
theorem pass_no (p : Nat) (k : Int) (e : Nat) (he : e ≠ 0) (w : World) : Calls Tryz.prog 214 #[.pointer (some ⟨p, 0, none⟩), .int .i64 k, .int .i64 (e : Int)] w fun r w' => r = Thrown e /\ w' = w := by
 have HT := Lib.hid (throw_no e he)
 go_enter Tryz.func214, Tryz.ntmps214
 go_wp2_with fail
 refine (HT.out _).mono ?_
 rintro r w2 ⟨rfl, rfl⟩
 exact ⟨rfl, rfl, rfl⟩
theorem pass_ok (p : Nat) (s : ByteArray) (k : Nat) (hk : k <= s.size) (hs : s.size <= 9223372036854775807) (w : World) (S : Nat -> Prop) (h : RdO p s w S) : Calls Tryz.prog 214 #[.pointer (some ⟨p, 0, none⟩), .int .i64 (k : Int), .int .i64 0] w fun r w' => r = .returned (.tuple #[]) /\ ObjStep (RdO p (s.extract k s.size)) S w w' := by
 have HT := Lib.hid throw_ok
 obtain ⟨c0, f0⟩ := rdSee h
 have hend := Lib.hid (rdSet h (s.extract k s.size))
 clear h
 go_enter Tryz.func214, Tryz.ntmps214
 go_wp2_with fail
 refine (HT.out _).mono ?_
 rintro r w2 ⟨rfl, rfl⟩
 go_wp2_with fail
 go_end0
 exact ⟨rfl, hend.out⟩
end Rc
end
section
open Go.RowKit Go.Sort
namespace Rc
open Bit Dsk Ob Dig Lb
def Got {α : Type} (x : Rd α) (s : ByteArray) (J : Ob.Rel) (w0 : World) (ok : α -> ByteArray -> Ending -> World -> Prop) (r : Ending) (w' : World) : Prop :=
 (∃ a s', x s.data.toList = .ok (a, s'.data.toList) /\ s'.size <= 140737488355328 /\ ok a s' r w') \/ (∃ e : Nat, x s.data.toList = .error e /\ r = Thrown e /\ Own J w0 w')
def MsO (u : Value) (l : List Mt.M) : Ob.Rel := fun w S => Mt.View w S u l /\ ∀ x, S x -> x < w.heap.size
theorem row_keep {α : Type} {L : Rw.Lay α} {w w' : World} {S : Nat -> Prop} (hk : ∀ b, S b -> w'.heap[b]? = w.heap[b]?) {u : Value} {l : List α} (h : Rw.View L w S u l) : Rw.View L w' S u l :=
 let ⟨A, c, h1, h2, h3, h4⟩ := h
 ⟨A, c, h1, h2, h3, fun hp => let ⟨b, off, k1, k2, k3⟩ := h4 hp
  ⟨b, off, k1, k2, fun i hi t u ht => by rw [<- k3 i hi t u ht, World.cell?, World.cell?, hk b k2]⟩⟩
theorem thingMs (u : Value) (l : List Mt.M) : Thing (MsO u l) := ⟨fun w w' S h hk hs => ⟨row_keep hk h.1, fun x hx => Nat.lt_of_lt_of_le (h.2 x hx) hs⟩, fun w S h x hx => h.2 x hx⟩
theorem msMade {I : Ob.Rel} (hI : Thing I) {w0 w w' : World} (H : Own I w0 w) {u : Value} {l : List Mt.M} (hv : Mt.View w' (Nw w) u l) (hu : New0 w w') : Own (Tens I (MsO u l)) w0 w' :=
 Own.new hI H (T := fun x => w.heap.size <= x /\ x < w'.heap.size) ⟨hv.mono fun b hb h => ⟨h, hb⟩, fun x hx => hx.2⟩ (fun x hx => hx.1) hu
theorem rdCell {J : Ob.Rel} {p : Nat} {s : ByteArray} {w0 w : World} (h : Own (Tens (RdO p s) J) w0 w) : w.cell? ⟨p, 0, none⟩ = some (.string s) /\ w.frozen? ⟨p, 0, none⟩ = false := let ⟨A, hA⟩ := h.seeL; rdSee hA
section
variable {J : Ob.Rel} {p : Nat} {s : ByteArray} {w0 w : World}
theorem rdPass (hJ : Thing J) (h : Own (Tens (RdO p s) J) w0 w) (hs : s.size <= 140737488355328) (k : Nat) (hk : k <= s.size) :
  Calls Tryz.prog 214 #[.pointer (some ⟨p, 0, none⟩), .int .i64 (k : Int), .int .i64 0] w fun r w' => r = .returned (.tuple #[]) /\ Own (Tens (RdO p (s.extract k s.size)) J) w0 w' :=
 ownL (Q := fun r => r = .returned (.tuple #[])) hJ h fun A _ hA => pass_ok p s k hk (by omega) w A hA
set_option maxHeartbeats 1600000 in
theorem rdNumber (hJ : Thing J) (h : Own (Tens (RdO p s) J) w0 w) (hs : s.size <= 140737488355328) :
  Calls Tryz.prog 188 #[.pointer (some ⟨p, 0, none⟩)] w (Got numR s J w0 fun n s' r w' => r = .returned (.int .u64 (n : Int)) /\ n < 18446744073709551616 /\ Own (Tens (RdO p s') J) w0 w') := by
 obtain ⟨n, k, x, hg⟩ : ∃ n k x, gotN s.data.toList = (n, k, x) := ⟨_, _, _, rfl⟩
 have hks : k <= s.size := by
  have := (gotN_lt s.data.toList).2.2.1
  rw [hg] at this
  simpa using this
 have hn64 : n < 18446744073709551616 := by
  have := (gotN_lt s.data.toList).1
  rw [hg] at this
  exact this
 have HG : Hid (∀ w, Calls Tryz.prog 100 #[.string s] w fun e w' => e = .returned (.tuple #[.int .u64 (n : Int), .int .i64 (k : Int), .int .i64 (x : Int)]) /\ New0 w w') := Lib.hid fun w => by
  have := Dig.get_any s (by omega) w
  rw [hg] at this
  exact this.mono fun e w' ⟨h1, h2⟩ => ⟨h1, newOf h2⟩
 have hnx := (nx_num hg).1 rfl
 have hs1 : (s.extract k s.size).size <= 140737488355328 := Nat.le_trans (ext_size _ _ _) hs
 have HP := Lib.hid (fun w h => rdPass (p := p) (w := w) (w0 := w0) hJ h hs k hks)
 have hI := Tens.ob (thingRd p s) hJ
 obtain ⟨c0, f0⟩ := rdCell h
 replace h := Lib.hid h
 clear hg
 rcases hnx with ⟨hx, hR⟩ | ⟨hx, hR⟩
 ·subst hx
  replace hR := Lib.hid hR
  go_enter Tryz.func188, Tryz.ntmps188
  go_wp2_with fail
  refine (HG.out _).mono ?_
  rintro e w2 ⟨rfl, hu⟩
  have h2 := Lib.hid (h.out.upon0 hI hu)
  clear HG h hu c0 f0
  go_wp2_with fail
  refine (HP.out _ h2.out).mono ?_
  rintro e w3 ⟨rfl, h3⟩
  replace h3 := Lib.hid h3
  clear HP h2
  go_wp2_with fail
  go_ret
  exact .inl ⟨n, _, hR.out, hs1, rfl, hn64, h3.out⟩
 ·replace hR := Lib.hid hR
  have HN := Lib.hid (pass_no p (k : Int) x hx)
  go_enter Tryz.func188, Tryz.ntmps188
  go_wp2_with fail
  refine (HG.out _).mono ?_
  rintro e w2 ⟨rfl, hu⟩
  have h2 := Lib.hid (h.out.upon0 hI hu)
  clear HG h hu c0 f0
  go_wp2_with fail
  refine (HN.out _).mono ?_
  rintro e w3 ⟨rfl, rfl⟩
  exact ⟨rfl, .inr ⟨x, hR.out, rfl, h2.out.dropl⟩⟩
set_option maxHeartbeats 1600000 in
theorem rdTime (hJ : Thing J) (h : Own (Tens (RdO p s) J) w0 w) (hs : s.size <= 140737488355328) :
  Calls Tryz.prog 191 #[.pointer (some ⟨p, 0, none⟩)] w (Got sgnR s J w0 fun n s' r w' => r = .returned (.int .i64 n) /\ (-9223372036854775808 <= n /\ n <= 9223372036854775807) /\ Own (Tens (RdO p s') J) w0 w') := by
 obtain ⟨n, k, x, hg⟩ : ∃ n k x, gotN s.data.toList = (n, k, x) := ⟨_, _, _, rfl⟩
 have hks : k <= s.size := by
  have := (gotN_lt s.data.toList).2.2.1
  rw [hg] at this
  simpa using this
 have hn64 : n < 18446744073709551616 := by
  have := (gotN_lt s.data.toList).1
  rw [hg] at this
  exact this
 have hzr : -9223372036854775808 <= unz n /\ unz n <= 9223372036854775807 := by unfold unz; split <;> omega
 have hnx := (nx_sgn hg).1 rfl
 have HG0 : ∀ w, Calls Tryz.prog 102 #[.string s] w fun e w' => e = .returned (.tuple #[.int .i64 (unz n), .int .i64 (k : Int), .int .i64 (x : Int)]) /\ New0 w w' := fun w => by
  have := Dig.getsigned_any s (by omega) w
  rw [hg] at this
  exact this.mono fun e w' ⟨h1, h2⟩ => ⟨h1, newOf h2⟩
 obtain ⟨z, hz⟩ : ∃ z, unz n = z := ⟨_, rfl⟩
 rw [hz] at HG0 hnx hzr
 have HG := Lib.hid HG0
 have hs1 : (s.extract k s.size).size <= 140737488355328 := Nat.le_trans (ext_size _ _ _) hs
 have HP := Lib.hid (fun w h => rdPass (p := p) (w := w) (w0 := w0) hJ h hs k hks)
 have hI := Tens.ob (thingRd p s) hJ
 obtain ⟨c0, f0⟩ := rdCell h
 replace h := Lib.hid h
 clear hg hz hn64 HG0
 rcases hnx with ⟨hx, hR⟩ | ⟨hx, hR⟩
 ·subst hx
  replace hR := Lib.hid hR
  replace hzr := Lib.hid hzr
  go_enter Tryz.func191, Tryz.ntmps191
  go_wp2_with fail
  refine (HG.out _).mono ?_
  rintro e w2 ⟨rfl, hu⟩
  have h2 := Lib.hid (h.out.upon0 hI hu)
  clear HG h hu c0 f0
  go_wp2_with fail
  refine (HP.out _ h2.out).mono ?_
  rintro e w3 ⟨rfl, h3⟩
  replace h3 := Lib.hid h3
  clear HP h2
  go_wp2_with fail
  go_ret
  exact .inl ⟨z, _, hR.out, hs1, rfl, hzr.out, h3.out⟩
 ·replace hR := Lib.hid hR
  have HN := Lib.hid (pass_no p (k : Int) x hx)
  go_enter Tryz.func191, Tryz.ntmps191
  go_wp2_with fail
  refine (HG.out _).mono ?_
  rintro e w2 ⟨rfl, hu⟩
  have h2 := Lib.hid (h.out.upon0 hI hu)
  clear HG h hu c0 f0 hzr
  go_wp2_with fail
  refine (HN.out _).mono ?_
  rintro e w3 ⟨rfl, rfl⟩
  exact ⟨rfl, .inr ⟨x, hR.out, rfl, h2.out.dropl⟩⟩
noncomputable def labsR : Rd (List Pr) := bnd (txtR 1024) labR
set_option maxHeartbeats 3200000 in
theorem rdLabels (hJ : Thing J) (h : Own (Tens (RdO p s) J) w0 w) (hs : s.size <= 140737488355328) :
  Calls Tryz.prog 229 #[.pointer (some ⟨p, 0, none⟩)] w (Got labsR s J w0 fun ls s' r w' => ∃ sl : Rw.Sl, r = .returned sl.v /\ (Sml ls /\ ls.length * 32 <= 140737488351232) /\ Own (Tens (RdO p s') (Tens J (LabO sl ls))) w0 w') := by
 obtain ⟨n, k, x, hg⟩ : ∃ n k x, gotT s.data.toList 1024 = (n, k, x) := ⟨_, _, _, rfl⟩
 have hks : k + n <= s.size := by
  have := gotT_le hg
  simpa using this
 have hnx := (nx_txt hg).1 rfl
 have HG0 : ∀ w, Calls Tryz.prog 99 #[.string s, .int .i64 1024] w fun e w' => e = .returned (.tuple #[.string (s.extract k (k + n)), .int .i64 ((k + n : Nat) : Int), .int .i64 (x : Int)]) /\ New0 w w' := fun w => by
  have := Dig.gettext_any s 1024 (by omega) (by decide) w
  rw [hg] at this
  exact this.mono fun e w' ⟨h1, h2⟩ => ⟨by rw [h1, Int.natCast_add], newOf h2⟩
 have hs1 : (s.extract (k + n) s.size).size <= 140737488355328 := Nat.le_trans (ext_size _ _ _) hs
 have ht0 : (s.extract k (k + n)).size <= 140737488355328 := Nat.le_trans (ext_size _ _ _) hs
 have HP0 := fun w h => rdPass (p := p) (w := w) (w0 := w0) hJ h hs (k + n) hks
 obtain ⟨kn, hkn⟩ : ∃ kn, k + n = kn := ⟨_, rfl⟩
 obtain ⟨t, ht⟩ : ∃ t, s.extract k kn = t := ⟨_, rfl⟩
 rw [hkn] at HG0 hnx hs1 HP0 ht0
 rw [ht] at HG0 hnx ht0
 have HG := Lib.hid HG0
 have HP := Lib.hid HP0
 have hI := Tens.ob (thingRd p s) hJ
 have hI2 := Lib.hid (fun s => Tens.ob (thingRd p s) hJ)
 obtain ⟨c0, f0⟩ := rdCell h
 replace h := Lib.hid h
 clear hg hks hkn ht HG0 HP0
 rcases hnx with ⟨hx, hR⟩ | ⟨hx, hR⟩
 ·subst hx
  obtain ⟨⟨ls, e7⟩, hde⟩ : ∃ x, Lb.dec t.data.toList = x := ⟨_, rfl⟩
  have HD := Lib.hid (fun w => Lb.decode_e w t ht0)
  have hnl := (nx_lab t (s.extract kn s.size)).1 rfl
  unfold Lb.DecE at HD
  rw [hde] at HD hnl
  simp only at HD hnl
  have hlb := Lib.hid (dec_bnd hde)
  clear hde ht0
  rcases hnl with ⟨hx7, hR7⟩ | ⟨hx7, hR7⟩
  ·subst hx7
   have HT := Lib.hid throw_ok
   have hRR : Hid (labsR s.data.toList = .ok (ls, (s.extract kn s.size).data.toList)) := Lib.hid (by unfold labsR; rw [bnd_ok hR]; exact hR7)
   clear hR hR7
   go_enter Tryz.func229, Tryz.ntmps229
   go_wp2_with fail
   refine (HG.out _).mono ?_
   rintro e w2 ⟨rfl, hu⟩
   have h2 := Lib.hid (h.out.upon0 hI hu)
   clear HG h hu c0 f0
   go_wp2_with fail
   refine (HP.out _ h2.out).mono ?_
   rintro e w3 ⟨rfl, h3⟩
   replace h3 := Lib.hid h3
   clear HP h2
   go_wp2_with fail
   refine (HD.out _).mono ?_
   rintro e w4 ⟨v, rfl, hv, hu4⟩
   obtain ⟨A, c, rfl, -, -⟩ := Rw.View.shape hv
   have h4 := Lib.hid (labMade (s := ⟨A, ls.length, c⟩) (hI2.out _) h3.out hv hu4).assoc
   clear HD h3 hv hu4
   go_wp2_with fail
   refine (HT.out _).mono ?_
   rintro e w5 ⟨rfl, rfl⟩
   clear HT
   go_wp2_with fail
   go_ret
   exact .inl ⟨ls, _, hRR.out, hs1, ⟨A, ls.length, c⟩, rfl, hlb.out, h4.out⟩
  ·have HT := Lib.hid (throw_no e7 hx7)
   have hRR : Hid (labsR s.data.toList = .error e7) := Lib.hid (by unfold labsR; rw [bnd_ok hR]; exact hR7)
   clear hR hR7
   go_enter Tryz.func229, Tryz.ntmps229
   go_wp2_with fail
   refine (HG.out _).mono ?_
   rintro e w2 ⟨rfl, hu⟩
   have h2 := Lib.hid (h.out.upon0 hI hu)
   clear HG h hu c0 f0
   go_wp2_with fail
   refine (HP.out _ h2.out).mono ?_
   rintro e w3 ⟨rfl, h3⟩
   replace h3 := Lib.hid h3
   clear HP h2
   go_wp2_with fail
   refine (HD.out _).mono ?_
   rintro e w4 ⟨v, rfl, hv, hu4⟩
   have h4 := Lib.hid (h3.out.dropl.upon0 hJ hu4)
   clear HD h3 hv hu4
   go_wp2_with fail
   refine (HT.out _).mono ?_
   rintro e w5 ⟨rfl, rfl⟩
   exact ⟨rfl, .inr ⟨e7, hRR.out, rfl, h4.out⟩⟩
 ·have hRR : Hid (labsR s.data.toList = .error x) := Lib.hid (by unfold labsR; rw [bnd_no hR])
  have HN := Lib.hid (pass_no p (kn : Int) x hx)
  clear hR
  go_enter Tryz.func229, Tryz.ntmps229
  go_wp2_with fail
  refine (HG.out _).mono ?_
  rintro e w2 ⟨rfl, hu⟩
  have h2 := Lib.hid (h.out.upon0 hI hu)
  clear HG h hu c0 f0
  go_wp2_with fail
  refine (HN.out _).mono ?_
  rintro e w3 ⟨rfl, rfl⟩
  exact ⟨rfl, .inr ⟨x, hRR.out, rfl, h2.out.dropl⟩⟩
theorem tk_drop {sl r : List UInt8} {l : List Mt.M} (h : Mt.tk sl = (l, r, 0)) : sl.drop (sl.length - r.length) = r := by
 have := (Mt.tk_back h).2
 rw [<- this]
 simp
set_option maxHeartbeats 3200000 in
theorem rdMatches (hJ : Thing J) (h : Own (Tens (RdO p s) J) w0 w) (hs : s.size <= 140737488355328) :
  Calls Tryz.prog 190 #[.pointer (some ⟨p, 0, none⟩)] w (Got takeR s J w0 fun l s' r w' => ∃ u : Value, r = .returned u /\ Mt.chk l = 0 /\ Own (Tens (RdO p s') (Tens J (MsO u l))) w0 w') := by
 obtain ⟨⟨l, r, x⟩, htk⟩ : ∃ y, Mt.tk s.data.toList = y := ⟨_, rfl⟩
 have HG0 := fun w => Mt.gete_new w s hs
 unfold Mt.GetN at HG0
 have hsl : s.data.toList.length = s.size := by simp
 have hI := Tens.ob (thingRd p s) hJ
 obtain ⟨c0, f0⟩ := rdCell h
 replace h := Lib.hid h
 by_cases hx : x = 0
 ·subst hx
  have hd := tk_drop htk
  have hle := Mt.tk_len htk
  rw [Mt.got_ok htk] at HG0
  simp only at HG0
  rw [hsl] at HG0 hd hle
  obtain ⟨k, hk⟩ : ∃ k, s.size - r.length = k := ⟨_, rfl⟩
  rw [hk] at HG0 hd
  have hks : k <= s.size := by omega
  have hR : Hid (takeR s.data.toList = .ok (l, (s.extract k s.size).data.toList)) := Lib.hid (by unfold takeR; rw [htk, Lb.drop_list, hd]; simp)
  have hs1 : (s.extract k s.size).size <= 140737488355328 := Nat.le_trans (ext_size _ _ _) hs
  have HP := Lib.hid (fun u w h => rdPass (p := p) (J := Tens J (MsO u l)) (w := w) (w0 := w0) (Tens.ob hJ (thingMs _ _)) h hs k hks)
  have hc := (Mt.tk_back htk).1
  replace hc := Lib.hid hc
  have HG := Lib.hid HG0
  clear htk hd hk hle hsl HG0
  go_enter Tryz.func190, Tryz.ntmps190
  go_wp2_with fail
  refine (HG.out _).mono ?_
  rintro e w2 ⟨u, rfl, hv, hu⟩
  have h2 := Lib.hid (msMade hI h.out hv hu).assoc
  clear HG h hu hv c0 f0
  go_wp2_with fail
  refine (HP.out _ _ h2.out).mono ?_
  rintro e w3 ⟨rfl, h3⟩
  replace h3 := Lib.hid h3
  clear HP h2
  go_wp2_with fail
  go_ret
  exact .inl ⟨l, _, hR.out, hs1, u, rfl, hc.out, h3.out⟩
 ·rw [Mt.got_no (x := x) (by rw [htk]) hx] at HG0
  simp only at HG0
  have hR : Hid (takeR s.data.toList = .error x) := Lib.hid (by unfold takeR; rw [htk, if_neg hx])
  have HG := Lib.hid HG0
  have HN := Lib.hid (fun k => pass_no p k x hx)
  clear htk hsl HG0
  go_enter Tryz.func190, Tryz.ntmps190
  go_wp2_with fail
  refine (HG.out _).mono ?_
  rintro e w2 ⟨u, rfl, hv, hu⟩
  have h2 := Lib.hid (h.out.upon0 hI hu)
  clear HG h hu hv c0 f0
  go_wp2_with fail
  refine (HN.out _ _).mono ?_
  rintro e w3 ⟨rfl, rfl⟩
  exact ⟨rfl, .inr ⟨x, hR.out, rfl, h2.out.dropl⟩⟩
end
end Rc
end
section
open Go.RowKit Go.Sort
namespace Rc
open Bit Dsk Ob Dig Lb
theorem bnd_assoc {α β γ : Type} (x : Rd α) (f : α -> Rd β) (g : β -> Rd γ) : bnd (bnd x f) g = bnd x fun a => bnd (f a) g := by
 funext s
 unfold bnd
 cases x s with
 | error e => rfl
 | ok y => rfl
noncomputable def smpR : Rd Smp := smpK retR
theorem smpR_is : smpR = bnd labsR fun l => bnd sgnR fun a => bnd numR fun b => retR (l, a, b) := by unfold smpR smpK labsR; rw [bnd_assoc]
theorem smpK_bnd {β : Type} (f : Smp -> Rd β) : smpK f = bnd smpR f := by
 unfold smpR smpK
 simp only [bnd_assoc]
 rfl
theorem manyK_bnd {β : Type} (f : List Smp -> Rd β) : ∀ (n : Nat) (acc : List Smp), manyK f n acc = bnd (manyK retR n acc) f
 | 0, acc => rfl
 | n + 1, acc => by
  rw [manyK, manyK, smpK_bnd, smpK_bnd, bnd_assoc]
  congr 1
  funext x
  exact manyK_bnd f n (acc ++ [x])
noncomputable def smpsR : Rd (List Smp) := bnd numR fun n => bnd (mustR (decide (1 <= n) && decide (n <= 32)) 2) fun _ => manyK retR n []
theorem comR_smps : comR = bnd smpsR comF := by
 unfold smpsR
 rw [comR_is, bnd_assoc]
 congr 1
 funext n
 rw [bnd_assoc]
 congr 1
 funext u
 exact manyK_bnd comF n []
theorem many_step {m : Nat} {l : List Smp} {x : Smp} {s r : List UInt8} (h : smpR s = .ok (x, r)) : manyK retR (m + 1) l s = manyK retR m (l ++ [x]) r := by rw [manyK, smpK_bnd, bnd_ok h]
theorem many_err {m : Nat} {l : List Smp} {s : List UInt8} {e : Nat} (h : smpR s = .error e) : manyK retR (m + 1) l s = .error e := by rw [manyK, smpK_bnd, bnd_no h]
def Box3O (g : Nat) (a b c : Value) : Ob.Rel := fun w S => Mt.Three 91 g a b c w /\ ∀ x, S x ↔ x = g
theorem thingBox3 (g : Nat) (a b c : Value) : Thing (Box3O g a b c) := ⟨fun w w' S h hk _ => ⟨(hk g ((h.2 g).2 rfl)).trans h.1, h.2⟩, fun w S h x hx => by rw [(h.2 x).1 hx]; exact (Array.getElem?_eq_some_iff.1 h.1).1⟩
theorem box3Made {I : Ob.Rel} (hI : Thing I) {w0 w : World} (H : Own I w0 w) (a b c : Value) : Own (Tens I (Box3O w.heap.size a b c)) w0 (w.alloc (.cells #[a, b, c] 91 (0, 0))) :=
 Own.new hI H (T := fun x => x = w.heap.size) ⟨cell_new w _, fun _ => Iff.rfl⟩ (fun x hx => by rw [hx]; exact Nat.le_refl _) ((Upon.refl _ w).alloc _)
theorem box3Step {g : Nat} {a b c : Value} {w : World} {S : Nat -> Prop} (h : Box3O g a b c w S) (x y z : Value) : ObjStep (Box3O g x y z) S w (((w.setCell ⟨g, 0, none⟩ x).setCell ⟨g, 1, none⟩ y).setCell ⟨g, 2, none⟩ z) :=
 have hs := (h.2 g).2 rfl
 ⟨⟨S, ⟨((h.1.set0 x).set1 y).set2 z, h.2⟩, fun _ h => h, fun _ h => .inl h⟩, Upon.setCell (p := ⟨g, 2, none⟩) (Upon.setCell (p := ⟨g, 1, none⟩) (Upon.setCell (p := ⟨g, 0, none⟩) (Upon.refl S w) (.inl hs) _) (.inl hs) _) (.inl hs) _⟩
theorem inBox {I J B L : Ob.Rel} (hI : Thing I) (hJ : Thing J) (hL : Thing L) {w0 w : World} (H : Own (Tens I (Tens (Tens J B) L)) w0 w) : ∃ A, B w A /\ ∀ (B' : Ob.Rel) (w' : World), ObjStep B' A w w' -> Own (Tens I (Tens (Tens J B') L)) w0 w' := by
 obtain ⟨A1, h1, go1⟩ := H.right hI
 obtain ⟨A2, h2, go2⟩ := Tens.left hL h1
 obtain ⟨A3, h3, go3⟩ := Tens.right hJ h2
 exact ⟨A3, h3, fun B' w' k => go1 _ _ (go2 _ _ (go3 _ _ k))⟩
theorem dropBox {I J B L : Ob.Rel} {w0 w : World} (H : Own (Tens I (Tens (Tens J B) L)) w0 w) : Own (Tens I (Tens J L)) w0 w :=
 Own.dropr (J := B) (H.mono fun S h => Tens.cossa (Tens.mapR (fun A h => Tens.cossa (Tens.mapR (fun A h => Tens.swap h) (Tens.assoc h))) h))
section
variable {J : Ob.Rel} {p : Nat} {s : ByteArray} {w0 w : World}
set_option maxHeartbeats 3200000 in
theorem rdSample (hJ : Thing J) (h : Own (Tens (RdO p s) J) w0 w) (hs : s.size <= 140737488355328) :
  Calls Tryz.prog 215 #[.pointer (some ⟨p, 0, none⟩)] w (Got smpR s J w0 fun x s' r w' => ∃ sl : Rw.Sl, r = .returned (.agg #[sl.v, .int .i64 x.2.1, .int .u64 (x.2.2 : Int)]) /\ BndS x /\ Own (Tens (RdO p s') (Tens J (LabO sl x.1))) w0 w') := by
 obtain ⟨g, hg⟩ : ∃ g, w.heap.size = g := ⟨_, rfl⟩
 have hB := hg ▸ (box3Made (Tens.ob (thingRd p s) hJ) h (.slice none 0 0) (.int .i64 0) (.int .u64 0)).assoc
 obtain ⟨wA, hwA⟩ : ∃ wA, w.alloc (.cells #[.slice none 0 0, .int .i64 0, .int .u64 0] 91 (0, 0)) = wA := ⟨_, rfl⟩
 rw [hwA] at hB
 have hwA' : Hid (w.alloc (.cells #[.slice none 0 0, .int .i64 0, .int .u64 0] 91 (0, 0)) = wA) := Lib.hid hwA
 have hg' := Lib.hid hg
 have hJB := Lib.hid (fun a b c => Tens.ob hJ (thingBox3 g a b c))
 have hJL := Lib.hid (fun a b c sl (ls : List Pr) => Tens.ob (Tens.ob hJ (thingBox3 g a b c)) (thingLab sl ls))
 have HL := Lib.hid (rdLabels (hJB.out _ _ _) hB hs)
 clear hB h hwA
 go_enter Tryz.func215, Tryz.ntmps215
 go_wp2_with fail
 rw [hwA'.out]
 refine HL.out.mono ?_
 rintro r w2 (⟨ls, s2, hR2, hs2, ⟨sa, sn, sc⟩, rfl, hb, h2⟩ | ⟨e, hR2, rfl, h2⟩)
 case inr => exact ⟨rfl, .inr ⟨e, by rw [smpR_is, bnd_no hR2], rfl, h2.dropr⟩⟩
 have hR2' := Lib.hid hR2
 have HT := Lib.hid (rdTime (hJL.out _ _ _ _ _) h2 hs2)
 replace hb := Lib.hid hb
 clear HL h2 hR2
 go_wp2_with fail
 refine HT.out.mono ?_
 rintro r w3 (⟨a, s3, hR3, hs3, rfl, hab, h3⟩ | ⟨e, hR3, rfl, h3⟩)
 case inr => exact ⟨rfl, .inr ⟨e, by rw [smpR_is, bnd_ok hR2'.out, bnd_no hR3], rfl, h3.dropr.dropr⟩⟩
 have hR3' := Lib.hid hR3
 have HN := Lib.hid (rdNumber (hJL.out _ _ _ _ _) h3 hs3)
 replace hab := Lib.hid hab
 clear HT h3 hR3
 go_wp2_with fail
 refine HN.out.mono ?_
 rintro r w4 (⟨b, s4, hR4, hs4, rfl, hb64, h4⟩ | ⟨e, hR4, rfl, h4⟩)
 case inr => exact ⟨rfl, .inr ⟨e, by rw [smpR_is, bnd_ok hR2'.out, bnd_ok hR3'.out, bnd_no hR4], rfl, h4.dropr.dropr⟩⟩
 have hRR : Hid (smpR s.data.toList = .ok ((ls, a, b), s4.data.toList)) := Lib.hid (by rw [smpR_is, bnd_ok hR2'.out, bnd_ok hR3'.out, bnd_ok hR4]; rfl)
 obtain ⟨A, hA, go⟩ := inBox (thingRd _ _) hJ (thingLab _ _) h4
 have hst := Lib.hid (dropBox (go _ _ (box3Step hA (.slice sa sn sc) (.int .i64 a) (.int .u64 (b : Int)))))
 obtain ⟨c0, f0, c1, f1, c2, f2, e0, e1, e2⟩ := hA.1.roads (.slice sa sn sc) (.int .i64 a) (.int .u64 (b : Int))
 have hb' : Hid (BndS (ls, a, b)) := Lib.hid ⟨hb.out.1, hb.out.2, hab.out.1, hab.out.2, hb64⟩
 clear HN h4 hR4 go hA hR2' hR3' hb hab hb64
 go_wp2_with fail
 refine bodyPost_ret (v := .agg #[.slice sa sn sc, .int .i64 a, .int .u64 (b : Int)]) (by simp [results, Tryz.results215, go_sem, e0, e1, e2]) rfl ?_
 exact .inl ⟨(ls, a, b), s4, hRR.out, hs4, ⟨sa, sn, sc⟩, rfl, hb'.out, hst.out⟩
end
end Rc
end
section
open Go.RowKit Go.Sort
namespace Rc
open Bit Dsk Ob Dig Lb
theorem count_any (n : Nat) (h : n < 18446744073709551616) (w : World) :
  Calls Tryz.prog 147 #[.int .u64 (n : Int)] w fun r w' => r = .returned (.bool (decide (1 <= n) && decide (n <= 32))) /\ w' = w := by
 have e1 : decide ((n : Int) ≥ 1) = decide (1 <= n) := by
  by_cases c : 1 <= n
  ·rw [decide_eq_true c]; exact decide_eq_true (by omega)
  ·rw [decide_eq_false c]; exact decide_eq_false (by omega)
 have e2 : decide ((n : Int) <= 32) = decide (n <= 32) := by
  by_cases c : n <= 32
  ·rw [decide_eq_true c]; exact decide_eq_true (by omega)
  ·rw [decide_eq_false c]; exact decide_eq_false (by omega)
 by_cases c : 1 <= n
 ·have d : (1 : Int) <= (n : Int) := by omega
  go_enter Tryz.func147, Tryz.ntmps147
  go_wp2
  go_ret
  exact ⟨by simp [c, e2], rfl⟩
 ·have d : ¬ (1 : Int) <= (n : Int) := by omega
  go_enter Tryz.func147, Tryz.ntmps147
  go_wp2
  go_ret
  exact ⟨by simp [c], rfl⟩
theorem countM {n : Nat} (h : (decide (1 <= n) && decide (n <= 32)) = true) : 1 <= n /\ n <= 32 := by simpa using h
abbrev SmsO (u : Value) (rs : List RS) (l : List Smp) : Ob.Rel := Tens (Rw.RowO layS 91 u rs) (LabsO rs l)
theorem thingSms (u : Value) (rs : List RS) (l : List Smp) : Thing (SmsO u rs l) := Tens.ob (Rw.thingRow _ _ _ _) (thingLabs _ _)
theorem smsOut {I J : Ob.Rel} {u : Value} {rs : List RS} {l : List Smp} {D : Ob.Rel} {w0 w : World} (H : Own (Tens I (Tens (Tens J (SmsO u rs l)) D)) w0 w) : Own (Tens I (Tens J (Tens (SmsO u rs l) D))) w0 w := H.mono fun S h => Tens.mapR (fun A h => Tens.assoc h) h
section
variable {J : Ob.Rel} {p : Nat} {s : ByteArray} {w0 w : World}
set_option maxHeartbeats 6400000 in
theorem rdSamples (hJ : Thing J) (h : Own (Tens (RdO p s) J) w0 w) (hs : s.size <= 140737488355328) :
  Calls Tryz.prog 189 #[.pointer (some ⟨p, 0, none⟩)] w (Got smpsR s J w0 fun l s' r w' => ∃ (u : Value) (rs : List RS), r = .returned u /\ (∀ x ∈ l, BndS x) /\ l.length <= 32 /\ Own (Tens (RdO p s') (Tens J (SmsO u rs l))) w0 w') := by
 have HN := Lib.hid (rdNumber hJ h hs)
 clear h
 go_enter Tryz.func189, Tryz.ntmps189
 go_wp2_with fail
 refine HN.out.mono ?_
 rintro r w2 (⟨n, s2, hR2, hs2, rfl, hn64, h2⟩ | ⟨e, hR2, rfl, h2⟩)
 case inr => exact ⟨rfl, .inr ⟨e, by unfold smpsR; rw [bnd_no hR2], rfl, h2⟩⟩
 obtain ⟨K, hK⟩ : ∃ K, smpsR s.data.toList = K := ⟨_, rfl⟩
 have hC := count_any n hn64
 obtain ⟨bb, hbb⟩ : ∃ bb, (decide (1 <= n) && decide (n <= 32)) = bb := ⟨_, rfl⟩
 rw [hbb] at hC
 cases bb with
 | false =>
  have hKe : Hid (smpsR s.data.toList = .error 2) := Lib.hid (by unfold smpsR; rw [bnd_ok hR2, bnd_no (e := 2) (by unfold mustR; rw [hbb]; rfl)])
  have hend := Lib.hid h2.dropl
  have HC := Lib.hid hC
  have HT := Lib.hid (throw_no 2 (by decide))
  clear HN hR2 h2 hbb hC hK
  go_wp2_with fail
  refine (HC.out _).mono ?_
  rintro r w3 ⟨rfl, rfl⟩
  clear HC
  go_wp2_with fail
  refine (HT.out _).mono ?_
  rintro r w3 ⟨rfl, rfl⟩
  exact ⟨rfl, .inr ⟨2, hKe.out, rfl, hend.out⟩⟩
 | true =>
  obtain ⟨hn1, hn32⟩ := countM hbb
  have hKs : Hid (manyK retR n [] s2.data.toList = K) := Lib.hid (by rw [<- hK]; unfold smpsR; rw [bnd_ok hR2, bnd_ok (a := ()) (r := s2.data.toList) (by unfold mustR; rw [hbb]; rfl)])
  obtain ⟨i0, z0, hi, hz0, hz1, hz2, -⟩ := typS.info
  replace hz1 : i0.size = 3 := hz1
  have HC := Lib.hid hC
  replace h2 := Lib.hid h2
  have hJr := Lib.hid (fun s => Tens.ob (thingRd p s) hJ)
  clear HN hR2 hbb hC
  replace hK := Lib.hid hK
  go_wp2_with fail
  refine (HC.out _).mono ?_
  rintro r w3 ⟨rfl, rfl⟩
  clear HC
  go_wp2_with (refine wpList_make_own _ rfl _ _ _ rfl 0 91 i0 _ 3 Tryz.underlying44 hi hz0 hz1 _ _ _ n rfl rfl rfl ?mk1 ?mk2 (Nat.zero_le _) ?_)
  case mk1 => rw [hz2]; omega
  case mk2 => unfold maxLen; omega
  intro w4 hrow hg4
  have h4 := Lib.hid (labsNone (Tens.ob (hJr.out _) (Rw.thingRow _ _ _ _)) (Rw.rowMade (L := layS) (T := 91) (hJr.out _) h2.out hrow hg4)).assoc.assoc
  clear hrow hg4 hi hz0 hz1 hz2 h2
  have hJs := Lib.hid (fun u rs l => Tens.ob hJ (thingSms u rs l))
  go_wp2_with fail
  go_loopw [4, 14] (fun u ov wr => ∃ (j : Nat) (sx : ByteArray) (l : List Smp) (rs : List RS), ov = .int .u64 (j : Int) /\ j <= n /\ sx.size <= 140737488355328 /\ Hid (l.length = j) /\ Hid (∀ x ∈ l, BndS x) /\ Hid (manyK retR (n - j) l sx.data.toList = K) /\
   Hid (Own (Tens (RdO p sx) (Tens J (SmsO u rs l))) w0 wr)) (fun _ ov _ => n - (intOf ov).toNat)
  case atStart => exact ⟨0, s2, [], [], rfl, Nat.zero_le _, hs2, Lib.hid rfl, Lib.hid (fun x hx => by cases hx), hKs, h4⟩
  case round =>
   clear hKs h4
   obtain ⟨j, sx, l, rs, rfl, hj, hsx, hlj, hbs, hr, ho⟩ := hrel
   by_cases hlt : j < n
   ·have HS := Lib.hid (rdSample (hJs.out _ _ _) ho.out hsx)
    have hmst : Hid (∀ x r, smpR sx.data.toList = .ok (x, r) -> manyK retR (n - (j + 1)) (l ++ [x]) r = K) := Lib.hid (fun x r hx => by rw [<- hr.out, show n - j = n - (j + 1) + 1 by omega, many_step hx])
    have hmer : Hid (∀ e, smpR sx.data.toList = .error e -> K = .error e) := Lib.hid (fun e hx => by rw [<- hr.out, show n - j = n - (j + 1) + 1 by omega, many_err hx])
    clear ho hr
    go_wp2_with fail
    refine HS.out.mono ?_
    rintro r w6 (⟨x, s6, hR6, hs6, ⟨sa, sn, sc⟩, rfl, hb6, h6⟩ | ⟨e, hR6, rfl, h6⟩)
    case inr => exact ⟨rfl, .inr ⟨e, by rw [hK.out]; exact hmer.out e hR6, rfl, h6.dropr⟩⟩
    obtain ⟨ls, a, b⟩ := x
    have hm6 := Lib.hid (hmst.out _ _ hR6)
    have h10 := smsOut h6
    clear HS hmst hmer hR6 h6
    have hll : l.length <= 32 := by have := hlj.out; omega
    have hMi := Lib.hid (Rw.Mine.new (rowMine h10) ((Upon.refl _ w6).alloc (.cells #[(⟨sa, sn, sc⟩ : Rw.Sl).v, .int .i64 a, .int .u64 (b : Int)] 91 (0, 0))))
    have hXi := Lib.hid (view_smp w6 (⟨sa, sn, sc⟩ : Rw.Sl) a b)
    have hPe := Lib.hid (permOut (Own.upon0 (Tens.ob (thingRd _ _) (Tens.ob hJ (Tens.ob (thingSms _ _ _) (thingLab _ _)))) h10 ((Upon.refl _ w6).alloc (.cells #[(⟨sa, sn, sc⟩ : Rw.Sl).v, .int .i64 a, .int .u64 (b : Int)] 91 (0, 0)))))
    obtain ⟨A10, c10, hu10, -, -⟩ := Rw.View.shape (rowMine h10).view
    have hrl : rs.length <= 32 := by
     obtain ⟨S10, hS10⟩ := h10.dropl.dropl.dropr.seeR
     have := hS10.1
     omega
    subst hu10
    clear h10
    go_wp2_with (at_builtin; refine Rw.wpList_append typS rfl _ _ rfl _ _ rs [((⟨sa, sn, sc⟩ : Rw.Sl), a, b)] Rw.All rfl rfl hMi.out hXi.out (by rw [List.length_singleton]; omega) (by rw [List.length_singleton]; omega) ?_)
    intro v' w11 hown hgr hbl
    have h11 := Rw.rowAppend (Tens.ob (thingRd _ _) (Tens.ob hJ (Tens.ob (thingLabs _ _) (thingLab _ _)))) hPe.out hown hgr (hbl.imp id fun h => h.trans (by simp))
    have h12 := Lib.hid (permIn h11 (fun w S h => labs_add (t := a) (u := b) h))
    have hlj' : Hid ((l ++ [((ls : List Pr), a, b)]).length = j + 1) := Lib.hid (by rw [List.length_append, hlj.out]; rfl)
    have hbs' : Hid (∀ x ∈ l ++ [((ls : List Pr), a, b)], BndS x) := Lib.hid (bnds_snoc hbs.out hb6)
    clear hMi hXi hPe hown hgr hbl h11 hbs hlj hb6
    go_wp2_with fail
    go_roundw
    case rel => exact ⟨j + 1, s6, _, _, by go_num, hlt, hs6, hlj', hbs', hm6, h12⟩
    case measure => simp [intOf]; omega
   ·have hr2 := hr.out
    rw [show n - j = 0 by omega, manyK] at hr2
    have hKr : Hid (K = .ok (l, sx.data.toList)) := Lib.hid hr2.symm
    have hll : l.length <= 32 := by have := hlj.out; omega
    have hll' := Lib.hid hll
    clear hr hr2 hll
    go_wp2_with fail
    go_ret
    exact .inl ⟨l, sx, by rw [hK.out]; exact hKr.out, hsx, _, rs, rfl, hbs.out, hll'.out, ho.out⟩
end
end Rc
end
section
open Go.RowKit Go.Sort
namespace Rc
open Bit Dsk Ob Dig
set_option maxHeartbeats 6400000 in
theorem com_any (w : World) (S : Nat -> Prop) (v : Value) (r : R) (hv : RView w S v r) (hb : Bnd r) (hk1 : r.kind = 1) :
  Calls Tryz.prog 97 #[v] w fun e w' => e = .returned (.int .i64 (chk r : Int)) /\ New0 w w' := by
 obtain ⟨A, c, A', c', rfl, hs, hm⟩ := RView.shape hv
 obtain ⟨k, l, ms, a, b⟩ := r
 simp only at hs hm hk1 ⊢
 subst hk1
 have hB := box5 w 1 (.slice A l.length c) (.slice A' ms.length c') a b
 have hU := Lib.hid ((Upon.refl (fun _ => False) w).alloc (.cells #[.int .i64 1, .slice A l.length c, .slice A' ms.length c', .int .i64 a, .int .i64 b] 47 (0, 0)))
 have HL := Lib.hid (fun w1 (hu : New0 w w1) x s (hx : Lb.View w S s x) (hsm : Lb.Sml x) => Lb.check_any w1 S s x (Rw.View.new hx hu) hsm)
 have hsml : Hid (∀ x ∈ l, Lb.Sml x.1) := Lib.hid (fun x hx => (hb.smp x hx).1)
 have hlm : l.length < 18446744073709551616 := by
  obtain ⟨A1, c1, he, h1, h2⟩ := Rw.DView.shape hs
  unfold maxLen at h2; omega
 replace hs := Lib.hid hs
 clear hm hv hb
 have n1 : ¬ noKind ⟨1, l, ms, a, b⟩ := fun h => h.1 rfl
 by_cases c1 : 0 < ms.length
 ·have hR : Hid ((3 : Int) = (chk ⟨1, l, ms, a, b⟩ : Int)) := Lib.hid (by rw [chk_field n1 (.inl ⟨rfl, .inl (fun e => by rw [show ms = [] from e] at c1; simp at c1)⟩)]; rfl)
  have d1 : (0 : Int) < (ms.length : Int) := by omega
  clear HL hsml hB n1 hs
  go_enter Tryz.func97, Tryz.ntmps97
  go_wp2_with fail
  go_ret
  exact ⟨Lb.ret_i hR.out, hU.out⟩
 have hms : ms = [] := by cases ms with | nil => rfl | cons x y => simp at c1
 subst hms
 simp only [List.length_nil] at hB hU
 by_cases c2 : a = 0
 ·by_cases c3 : b = 0
  ·subst c2 c3
   have n2 : ¬ strange ⟨1, l, [], 0, 0⟩ := by
    rintro (⟨-, h⟩ | ⟨h, -⟩)
    ·rcases h with h | h | h
     ·exact h rfl
     ·exact h rfl
     ·exact h rfl
    ·exact h rfl
   have hC0 := count_any l.length hlm
   have hwr : IntKind.u64.wrap (l.length : Int) = (l.length : Int) := by rw [IntKind.wrap_u64]; omega
   by_cases c4 : l.length < 1 \/ 32 < l.length
   ·have hR : Hid ((2 : Int) = (chk ⟨1, l, [], 0, 0⟩ : Int)) := Lib.hid (by rw [chk_range n1 n2 ⟨rfl, c4⟩]; rfl)
    rw [show (decide (1 <= l.length) && decide (l.length <= 32)) = false by
     rcases c4 with h | h
     ·rw [decide_eq_false (by omega)]; rfl
     ·rw [decide_eq_false (p := l.length <= 32) (by omega), Bool.and_false]] at hC0
    have HC0 := Lib.hid hC0
    clear HL hsml hB n1 n2 hs hC0
    go_enter Tryz.func97, Tryz.ntmps97
    go_wp2_with fail
    refine (HC0.out _).mono ?_
    rintro e w2 ⟨rfl, rfl⟩
    go_wp2_with fail
    go_ret
    exact ⟨Lb.ret_i hR.out, hU.out⟩
   have n3 : ¬ manyB ⟨1, l, [], 0, 0⟩ := fun h => c4 h.2
   rw [show (decide (1 <= l.length) && decide (l.length <= 32)) = true by rw [decide_eq_true (by omega), decide_eq_true (by omega)]; rfl] at hC0
   have HC0 := Lib.hid hC0
   have hm0 : Mt.chk [] = 0 := rfl
   have hbad : Hid (badL ⟨1, l, [], 0, 0⟩ -> (16 : Int) = (chk ⟨1, l, [], 0, 0⟩ : Int)) := Lib.hid (fun h => by rw [chk_label n1 n2 n3 h]; rfl)
   have hgood : Hid (¬ badL ⟨1, l, [], 0, 0⟩ -> (0 : Int) = (chk ⟨1, l, [], 0, 0⟩ : Int)) := Lib.hid (fun h => by rw [chk_right n1 n2 n3 h hm0 (Int.lt_irrefl 0)]; rfl)
   obtain ⟨q, hq⟩ : ∃ q, (chk ⟨1, l, [], 0, 0⟩ : Int) = q := ⟨_, rfl⟩
   rw [hq] at hbad hgood ⊢
   obtain ⟨b0, off, rfl, -, hcells⟩ := SView.cells hs.out (by omega)
   replace hcells := Lib.hid hcells
   have hfew : l.length <= 32 := by omega
   clear n1 n2 n3 hm0 hq hs c4 hC0
   obtain ⟨wb, hwb⟩ : ∃ wb, w.alloc (.cells #[.int .i64 1, .slice (some ⟨b0, off, none⟩) l.length c, .slice A' 0 c', .int .i64 0, .int .i64 0] 47 (0, 0)) = wb := ⟨_, rfl⟩
   rw [hwb] at hB hU
   replace hwb := Lib.hid hwb
   obtain ⟨g0, g1, g2, g3, g4⟩ := hB
   go_enter Tryz.func97, Tryz.ntmps97
   go_wp2_with fail
   rw [hwb.out]
   refine (HC0.out _).mono ?_
   rintro e w2 ⟨rfl, rfl⟩
   clear HC0 hwb
   go_wp2_with fail
   clear g0 g1 g2 g3 g4 hwr
   go_loopw [28] (fun ov wr => ∃ j : Nat, ov = .int .i64 (j : Int) /\ j <= l.length /\ Hid (GoodL l j) /\ Hid (New0 w2 wr)) (fun ov _ => l.length - (intOf ov).toNat)
   case atStart => exact ⟨0, rfl, Nat.zero_le _, Lib.hid (GoodL.start l), Lib.hid (Upon.refl _ _)⟩
   case round =>
    obtain ⟨j, rfl, hj, hg, hu⟩ := hrel
    by_cases hlt : j < l.length
    ·obtain ⟨⟨sa, sn, sc⟩, hsv, x0, x1, x2⟩ := hcells.out j hlt
     have r0 := Lb.New0.cells (hU.out.trans hu.out) x0
     have r1 := Lb.New0.cells (hU.out.trans hu.out) x1
     have r2 := Lb.New0.cells (hU.out.trans hu.out) x2
     obtain ⟨wq, hwq⟩ : ∃ wq, wr.alloc (.cells #[.slice sa sn sc, .int .i64 l[j].2.1, .int .u64 (l[j].2.2 : Int)] 91 (0, 0)) = wq := ⟨_, rfl⟩
     have hq := cell_new wr (.cells #[.slice sa sn sc, .int .i64 l[j].2.1, .int .u64 (l[j].2.2 : Int)] 91 (0, 0))
     have huq := hu.out.alloc (.cells #[.slice sa sn sc, .int .i64 l[j].2.1, .int .u64 (l[j].2.2 : Int)] 91 (0, 0))
     rw [hwq] at hq huq
     have q0 : wq.cell? ⟨wr.heap.size, 0, none⟩ = some (.slice sa sn sc) := by rw [Lib.cell_of_heap hq]; rfl
     have HL1 := Lib.hid (HL.out _ (hU.out.trans huq) _ _ hsv (hsml.out _ (List.getElem_mem hlt)))
     replace huq := Lib.hid huq
     replace hwq := Lib.hid hwq
     by_cases hok : Lb.Ok l[j].1
     ·have hG := Lib.hid (hg.out.step hlt hok)
      rw [Lb.chk_ok hok] at HL1
      clear x0 x1 x2 hsv hg hok hq hu
      obtain ⟨xt, hxt⟩ : ∃ xt, l[j].2.1 = xt := ⟨_, rfl⟩
      obtain ⟨xv, hxv⟩ : ∃ xv, l[j].2.2 = xv := ⟨_, rfl⟩
      rw [hxt] at r1 hwq
      rw [hxv] at r2 hwq
      clear hxt hxv
      go_wp2_with fail
      rw [hwq.out]
      refine HL1.out.mono ?_
      rintro e w3 ⟨rfl, hu3⟩
      have hu2 := Lib.hid (huq.out.trans hu3)
      clear HL1 hwq hu3 huq r0 r1 r2 q0
      go_wp2_with fail
      go_roundw
      case rel => exact ⟨j + 1, by go_num, hlt, hG, hu2⟩
      case measure => simp [intOf]; omega
     ·have hR := Lib.hid (hbad.out ⟨_, List.getElem_mem hlt, hok⟩)
      rw [Lb.chk_no hok] at HL1
      clear x0 x1 x2 hsv hg hok hq hu
      obtain ⟨xt, hxt⟩ : ∃ xt, l[j].2.1 = xt := ⟨_, rfl⟩
      obtain ⟨xv, hxv⟩ : ∃ xv, l[j].2.2 = xv := ⟨_, rfl⟩
      rw [hxt] at r1 hwq
      rw [hxv] at r2 hwq
      clear hxt hxv
      go_wp2_with fail
      rw [hwq.out]
      refine HL1.out.mono ?_
      rintro e w3 ⟨rfl, hu3⟩
      have hu2 := Lib.hid (hU.out.trans (huq.out.trans hu3))
      clear HL1 hwq hu3 huq r0 r1 r2 q0
      go_wp2_with fail
      go_ret
      exact ⟨Lb.ret_i hR.out, hu2.out⟩
    ·have hR := Lib.hid (hgood.out (hg.out.last hlt))
     have hend := Lib.hid (hU.out.trans hu.out)
     clear hg hcells HL hu
     go_wp2_with fail
     go_ret
     exact ⟨Lb.ret_i hR.out, hend.out⟩
  ·have hR : Hid ((3 : Int) = (chk ⟨1, l, [], a, b⟩ : Int)) := Lib.hid (by rw [chk_field n1 (.inl ⟨rfl, .inr (.inr c3)⟩)]; rfl)
   have d2 : (b != 0) = true := by rw [bne_iff_ne]; exact c3
   subst c2
   clear HL hsml hB n1 hs c3 c1
   go_enter Tryz.func97, Tryz.ntmps97
   go_wp2_with fail
   go_ret
   exact ⟨Lb.ret_i hR.out, hU.out⟩
 ·have hR : Hid ((3 : Int) = (chk ⟨1, l, [], a, b⟩ : Int)) := Lib.hid (by rw [chk_field n1 (.inl ⟨rfl, .inr (.inl c2)⟩)]; rfl)
  have d2 : (a != 0) = true := by rw [bne_iff_ne]; exact c2
  clear HL hsml hB n1 hs c2 c1
  go_enter Tryz.func97, Tryz.ntmps97
  go_wp2_with fail
  go_ret
  exact ⟨Lb.ret_i hR.out, hU.out⟩
set_option maxHeartbeats 3200000 in
theorem del_any (w : World) (S : Nat -> Prop) (v : Value) (r : R) (hv : RView w S v r) (hb : Bnd r) (hk2 : r.kind = 2) :
  Calls Tryz.prog 98 #[v] w fun e w' => e = .returned (.int .i64 (chk r : Int)) /\ New0 w w' := by
 obtain ⟨A, c, A', c', rfl, hs, hm⟩ := RView.shape hv
 obtain ⟨k, l, ms, a, b⟩ := r
 simp only at hs hm hk2 ⊢
 subst hk2
 have hB := box5 w 2 (.slice A l.length c) (.slice A' ms.length c') a b
 have hU := Lib.hid ((Upon.refl (fun _ => False) w).alloc (.cells #[.int .i64 2, .slice A l.length c, .slice A' ms.length c', .int .i64 a, .int .i64 b] 47 (0, 0)))
 have HC := Lib.hid (fun w1 (hu : New0 w w1) => Mt.check_any w1 S _ ms (Rw.View.new hm hu) hb.ms)
 clear hm hv hb hs
 have h1 : ¬ (2 : Int) = 1 := by decide
 have n1 : ¬ noKind ⟨2, l, ms, a, b⟩ := fun h => h.2 rfl
 by_cases c1 : 0 < l.length
 ·have hR : Hid ((3 : Int) = (chk ⟨2, l, ms, a, b⟩ : Int)) := Lib.hid (by rw [chk_field n1 (.inr ⟨h1, (fun e => by rw [show l = [] from e] at c1; simp at c1)⟩)]; rfl)
  have d1 : (0 : Int) < (l.length : Int) := by omega
  clear HC hB n1
  go_enter Tryz.func98, Tryz.ntmps98
  go_wp2_with fail
  go_ret
  exact ⟨Lb.ret_i hR.out, hU.out⟩
 have hl : l = [] := by cases l with | nil => rfl | cons x y => simp at c1
 subst hl
 simp only [List.length_nil] at hB hU
 have n2 : ¬ strange ⟨2, [], ms, a, b⟩ := by
  rintro (⟨h, -⟩ | ⟨-, h⟩)
  ·exact h1 h
  ·exact h rfl
 have n3 : ¬ manyB ⟨2, [], ms, a, b⟩ := fun h => h1 h.1
 have n4 : ¬ badL ⟨2, [], ms, a, b⟩ := fun ⟨x, hx, _⟩ => by cases hx
 obtain ⟨wb, hwb⟩ : ∃ wb, w.alloc (.cells #[.int .i64 2, .slice A 0 c, .slice A' ms.length c', .int .i64 a, .int .i64 b] 47 (0, 0)) = wb := ⟨_, rfl⟩
 rw [hwb] at hB hU
 obtain ⟨k0, k1, k2, k3, k4⟩ := hB
 have HC1 := Lib.hid (HC.out _ hU.out)
 replace hwb := Lib.hid hwb
 have hB2 : Hid (∀ w', New0 wb w' -> w'.cell? ⟨w.heap.size, 3, none⟩ = some (.int .i64 a) /\ w'.cell? ⟨w.heap.size, 4, none⟩ = some (.int .i64 b)) := Lib.hid (fun w' hu => ⟨Lb.New0.cells hu k3, Lb.New0.cells hu k4⟩)
 by_cases hm : Mt.chk ms = 0
 ·rw [hm] at HC1
  by_cases hab : b < a
  ·have hR : Hid ((9 : Int) = (chk ⟨2, [], ms, a, b⟩ : Int)) := Lib.hid (by rw [chk_order n1 n2 n3 n4 hm hab]; rfl)
   clear n1 n2 n3 n4 hm HC h1 c1
   go_enter Tryz.func98, Tryz.ntmps98
   go_wp2_with fail
   rw [hwb.out]
   refine HC1.out.mono ?_
   rintro e w2 ⟨rfl, hu2⟩
   obtain ⟨g3, g4⟩ := hB2.out _ hu2
   have hend := Lib.hid (hU.out.trans hu2)
   clear HC1 hB2 hu2 hwb k0 k1 k2 k3 k4
   go_wp2_with fail
   go_ret
   exact ⟨Lb.ret_i hR.out, hend.out⟩
  ·have hR : Hid ((0 : Int) = (chk ⟨2, [], ms, a, b⟩ : Int)) := Lib.hid (by rw [chk_right n1 n2 n3 n4 hm hab]; rfl)
   clear n1 n2 n3 n4 hm HC h1 c1
   go_enter Tryz.func98, Tryz.ntmps98
   go_wp2_with fail
   rw [hwb.out]
   refine HC1.out.mono ?_
   rintro e w2 ⟨rfl, hu2⟩
   obtain ⟨g3, g4⟩ := hB2.out _ hu2
   have hend := Lib.hid (hU.out.trans hu2)
   clear HC1 hB2 hu2 hwb k0 k1 k2 k3 k4
   go_wp2_with fail
   go_ret
   exact ⟨Lb.ret_i hR.out, hend.out⟩
 ·have hR : Hid ((Mt.chk ms : Int) = (chk ⟨2, [], ms, a, b⟩ : Int)) := Lib.hid (by rw [chk_match n1 n2 n3 n4 hm])
  obtain ⟨z, hz⟩ : ∃ z, Mt.chk ms = z := ⟨_, rfl⟩
  rw [hz] at HC1 hm hR
  have dz : ((z : Int) != 0) = true := by rw [bne_iff_ne]; omega
  clear n1 n2 n3 n4 hz HC hm h1 c1
  go_enter Tryz.func98, Tryz.ntmps98
  go_wp2_with fail
  rw [hwb.out]
  refine HC1.out.mono ?_
  rintro e w2 ⟨rfl, hu2⟩
  have hend := Lib.hid (hU.out.trans hu2)
  clear HC1 hB2 hu2 hwb k0 k1 k2 k3 k4
  go_wp2_with fail
  go_ret
  exact ⟨Lb.ret_i hR.out, hend.out⟩
set_option maxHeartbeats 3200000 in
theorem check_any (w : World) (S : Nat -> Prop) (v : Value) (r : R) (hv : RView w S v r) (hb : Bnd r) :
  Calls Tryz.prog 46 #[v] w fun e w' => e = .returned (.int .i64 (chk r : Int)) /\ New0 w w' := by
 have HC1 : Hid (∀ w1, New0 w w1 -> r.kind = 1 -> Calls Tryz.prog 97 #[v] w1 fun e w' => e = .returned (.int .i64 (chk r : Int)) /\ New0 w1 w') := Lib.hid (fun w1 hu hk => com_any w1 S v r (hv.new hu) hb hk)
 have HC2 : Hid (∀ w1, New0 w w1 -> r.kind = 2 -> Calls Tryz.prog 98 #[v] w1 fun e w' => e = .returned (.int .i64 (chk r : Int)) /\ New0 w1 w') := Lib.hid (fun w1 hu hk => del_any w1 S v r (hv.new hu) hb hk)
 obtain ⟨A, c, A', c', rfl, hs, hm⟩ := RView.shape hv
 obtain ⟨k, l, ms, a, b⟩ := r
 simp only at hs hm HC1 HC2 ⊢
 have hB := box5 w k (.slice A l.length c) (.slice A' ms.length c') a b
 have hU := (Upon.refl (fun _ => False) w).alloc (.cells #[.int .i64 k, .slice A l.length c, .slice A' ms.length c', .int .i64 a, .int .i64 b] 47 (0, 0))
 obtain ⟨wb, hwb⟩ : ∃ wb, w.alloc (.cells #[.int .i64 k, .slice A l.length c, .slice A' ms.length c', .int .i64 a, .int .i64 b] 47 (0, 0)) = wb := ⟨_, rfl⟩
 rw [hwb] at hB hU
 obtain ⟨k0, k1, k2, k3, k4⟩ := hB
 clear hs hm hv hb
 by_cases h1 : k = 1
 ·subst h1
  have H := Lib.hid (HC1.out _ hU rfl)
  replace hU := Lib.hid hU
  replace hwb := Lib.hid hwb
  clear HC1 HC2
  obtain ⟨q, hq⟩ : ∃ q, (chk ⟨1, l, ms, a, b⟩ : Int) = q := ⟨_, rfl⟩
  rw [hq] at H ⊢
  clear hq
  go_enter Tryz.func46, Tryz.ntmps46
  go_wp2_with fail
  rw [hwb.out]
  refine H.out.mono ?_
  rintro e w2 ⟨rfl, hu2⟩
  have hend := Lib.hid (hU.out.trans hu2)
  clear H hwb hu2 k0 k1 k2 k3 k4
  go_wp2_with fail
  go_ret
  exact ⟨rfl, hend.out⟩
 ·have e1 : (k == 1) = false := by rw [beq_eq_false_iff_ne]; exact h1
  by_cases h2 : k = 2
  ·subst h2
   have H := Lib.hid (HC2.out _ hU rfl)
   replace hU := Lib.hid hU
   replace hwb := Lib.hid hwb
   clear HC1 HC2 h1
   obtain ⟨q, hq⟩ : ∃ q, (chk ⟨2, l, ms, a, b⟩ : Int) = q := ⟨_, rfl⟩
   rw [hq] at H ⊢
   clear hq
   go_enter Tryz.func46, Tryz.ntmps46
   go_wp2_with fail
   rw [hwb.out]
   refine H.out.mono ?_
   rintro e w2 ⟨rfl, hu2⟩
   have hend := Lib.hid (hU.out.trans hu2)
   clear H hwb hu2 k0 k1 k2 k3 k4
   go_wp2_with fail
   go_ret
   exact ⟨rfl, hend.out⟩
  ·have e2 : (k == 2) = false := by rw [beq_eq_false_iff_ne]; exact h2
   have hR : Hid ((5 : Int) = (chk ⟨k, l, ms, a, b⟩ : Int)) := Lib.hid (by rw [chk_kind ⟨h1, h2⟩]; rfl)
   replace hU := Lib.hid hU
   replace hwb := Lib.hid hwb
   clear HC1 HC2 h1 h2
   go_enter Tryz.func46, Tryz.ntmps46
   go_wp2_with fail
   rw [hwb.out]
   go_ret
   exact ⟨Lb.ret_i hR.out, hU.out⟩
theorem check_is (w : World) (S : Nat -> Prop) (v : Value) (r : R) (hv : RView w S v r) (hb : Bnd r) {z : Nat} (h : chk r = z) :
  Calls Tryz.prog 46 #[v] w fun e w' => e = .returned (.int .i64 (z : Int)) /\ New0 w w' := by
 subst h; exact check_any w S v r hv hb
end Rc
end
end
end Go.Proofs.YtgmnhodajngchaaGreatDoor
