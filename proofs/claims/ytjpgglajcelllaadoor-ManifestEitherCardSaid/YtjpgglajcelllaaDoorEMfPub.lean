/- Manifests (layer 17), plainly: publishing on a disk, and a crash. Names no function of the program. -/
import Derived.Test.YtjpgglajcelllaaDoorEMfPure
import Derived.Test.YtjpgglajcelllaaDoorEPDisk3
import Derived.Test.YtjpgglajcelllaaDoorEDskGro
import Derived.Test.YtjpgglajcelllaaDoorEDiskSwaps
set_option maxRecDepth 100000
namespace Go.Proofs.YtjpgglajcelllaaDoor
open Go.RowKit
namespace Mf
open Bit Dsk Ob Dig
set_option linter.unusedVariables false
def mN : Str := [109]
def nN : Str := [110]
/-- What an earlier publishing has left is removed. -/
def pre (st : St) : St × Int := if readE st nN = 0 then (remS st nN, remE st nN) else (st, 0)
def thn (p : St × Int) (S : St → St) (E : St → Int) : St × Int := if p.2 = 0 then (S p.1, E p.1) else p
theorem thn_ok {p : St × Int} (h : p.2 = 0) (S : St → St) (E : St → Int) : thn p S E = (S p.1, E p.1) := if_pos h
theorem thn_no {p : St × Int} (h : p.2 ≠ 0) (S : St → St) (E : St → Int) : thn p S E = p := if_neg h
def pub1 (s : Str) (st : St) : St × Int := thn (pre st) (fun x => appS x nN s) (fun x => appE x nN s)
def pub2 (s : Str) (st : St) : St × Int := thn (pub1 s st) (fun x => syncS x nN) (fun x => syncE x nN)
def pub3 (s : Str) (st : St) : St × Int := thn (pub2 s st) (fun x => renS x nN mN) (fun x => renE x nN mN)
def pub (s : Str) (st : St) : St × Int := thn (pub3 s st) snS snE
/-! ### how a disk grows -/
theorem grew_pre {k : Nat} {st : St} (h : Gro.Grew k st) : Gro.Grew (k + 1) (pre st).1 := by
  unfold pre
  split
  · exact Gro.grew_rem h _
  · exact h.more
/-! ### what is on a disk that holds a manifest -/
/-- How much there may be of it. -/
def szO : Option Str → Nat
  | none => 0
  | some _ => 1000
/-- The names: the manifest's (of file i), and what was begun beside it (of file k). -/
def nmsB (o : Option Str) (i : Nat) : Nms := match o with | none => [] | some _ => [(mN, i)]
def nmsT (t : Option Nat) : Nms := match t with | none => [] | some k => [(nN, k)]
/-- File i is o, and all of it lasts. -/
def has (o : Option Str) (i : Nat) (F : List FileS) : Prop := ∀ s, o = some s → F[i]? = some ⟨s, s.length⟩ ∧ s.length ≤ 1000
/-- It holds o, all lasting. -/
def Held (room : Int) (left : Int) (o : Option Str) (st : St) : Prop := ∃ i t F, st = ⟨room, false, left, F, nmsB o i ++ nmsT t, nmsB o i ++ nmsT t, []⟩ ∧ has o i F
/-- .. and nothing beside it. -/
def Only (room : Int) (left : Int) (o : Option Str) (st : St) : Prop := ∃ i F, st = ⟨room, false, left, F, nmsB o i, nmsB o i, []⟩ ∧ has o i F
theorem Only.held {room left : Int} {o : Option Str} {st : St} (h : Only room left o st) : Held room left o st := by
  obtain ⟨i, F, rfl, h2⟩ := h
  exact ⟨i, none, F, by simp [nmsT], h2⟩
/-- Behind a publishing that was cut short: at a crash one or the other holds, whichever changes are kept. -/
structure Torn (room : Int) (o : Option Str) (s : Str) (st : St) : Prop where
  room : st.room = room
  each : ∀ j, (∃ i t, (st.C.take j).foldl appC st.L = nmsB o i ++ nmsT t ∧ has o i st.F) ∨ (∃ i, (st.C.take j).foldl appC st.L = [(mN, i)] ∧ has (some s) i st.F)
theorem only_new (room : Int) : Only room (-1) none (new room) := ⟨0, [], rfl, fun s h => by cases h⟩
theorem has_cut {o : Option Str} {i : Nat} {F : List FileS} (h : has o i F) (N : Nms) (keep : List Int) : has o i (cutAll keep N F) := fun s hs => ⟨cutAll_keeps rfl N keep F (h s hs).1, (h s hs).2⟩
theorem Torn.crash {room : Int} {o : Option Str} {s : Str} {st : St} (h : Torn room o s st) (keep : List Int) : Held room (-1) o (Dsk.crash st keep) ∨ Held room (-1) (some s) (Dsk.crash st keep) := by
  unfold Dsk.crash
  rcases h.each (kept1 keep st.C.length) with ⟨i, t, h1, h2⟩ | ⟨i, h1, h2⟩
  · left
    simp only [h1, h.room]
    exact ⟨i, t, _, rfl, has_cut h2 _ _⟩
  · right
    simp only [h1, h.room]
    exact ⟨i, none, _, rfl, has_cut h2 _ _⟩
theorem Held.crash {room left : Int} {o : Option Str} {st : St} (h : Held room left o st) (keep : List Int) : Held room (-1) o (Dsk.crash st keep) := by
  obtain ⟨i, t, F, rfl, h2⟩ := h
  exact ⟨i, t, cutAll (keep.drop 1) (nmsB o i ++ nmsT t) F, by simp [Dsk.crash], has_cut h2 _ _⟩
theorem Only.crash {room left : Int} {o : Option Str} {st : St} (h : Only room left o st) (keep : List Int) : Only room (-1) o (Dsk.crash st keep) := by
  obtain ⟨i, F, rfl, h2⟩ := h
  exact ⟨i, cutAll (keep.drop 1) (nmsB o i) F, by simp [Dsk.crash], has_cut h2 _ _⟩
theorem Held.fuse {room left : Int} {o : Option Str} {st : St} (h : Held room left o st) {n : Int} (hn : 0 ≤ n) : Held room n o (Dsk.fuse st n) := by
  obtain ⟨i, t, F, rfl, h2⟩ := h
  refine ⟨i, t, F, ?_, h2⟩
  unfold Dsk.fuse
  rw [if_neg (by simp)]
  have : max (-1) n = n := by omega
  rw [this]
/-- What is read of it. -/
theorem Held.read {room left : Int} {o : Option Str} {st : St} (h : Held room left o st) : (o = none → readE st mN = 12) ∧ ∀ s, o = some s → readE st mN = 0 ∧ readA st mN = s := by
  obtain ⟨i, t, F, rfl, h2⟩ := h
  constructor
  · rintro rfl
    cases t <;> simp [readE, nmsB, nmsT, lookN, mN, nN]
  · rintro s rfl
    have h3 := (h2 s rfl).1
    cases t <;> simp [readE, readA, nmsB, nmsT, lookN, mN, nN, h3]
theorem Only.names {room left : Int} {o : Option Str} {st : St} (h : Only room left o st) : (Dsk.names st).length ≤ 1 ∧ (o ≠ none → (Dsk.names st).length = 1) := by
  obtain ⟨i, F, rfl, h2⟩ := h
  cases o <;> simp [Dsk.names, nmsB]
/-! ### publishing on it -/
/-- A write goes, or does not. -/
def nx (l : Int) : Int := if 0 < l then l - 1 else l
theorem wr_go {st : St} (hd : st.dead = false) (hl : st.left ≠ 0) : wrB st = true ∧ wrS st = { st with left := nx st.left } := by
  have e : (st.dead || st.left == 0) = false := by rw [hd]; simp [hl]
  unfold wrB wrS nx
  rw [e]
  refine ⟨rfl, ?_⟩
  simp only [Bool.false_eq_true, if_false]
  split <;> rfl
theorem wr_no {st : St} (hl : st.left = 0) : wrB st = false ∧ wrS st = { st with dead := true } := by
  have e : (st.dead || st.left == 0) = true := by rw [hl]; simp
  unfold wrB wrS
  rw [e]
  exact ⟨rfl, rfl⟩
theorem nx_neg {l : Int} (h : l < 0) : nx l = l := by unfold nx; rw [if_neg (by omega)]
section
variable {room l : Int} {F : List FileS} {o : Option Str} {i : Nat} {s : Str}
/-- Behind the first step: nothing is beside the manifest now. -/
theorem pre_is (t : Option Nat) (hh : has o i F) : (pre ⟨room, false, l, F, nmsB o i ++ nmsT t, nmsB o i ++ nmsT t, []⟩).2 = 0 ∧ (∃ l' C, (pre ⟨room, false, l, F, nmsB o i ++ nmsT t, nmsB o i ++ nmsT t, []⟩).1 = ⟨room, false, l', F, nmsB o i, nmsB o i ++ nmsT t, C⟩ ∧ (l < 0 → l' = l) ∧ (∀ j, ∃ t', (C.take j).foldl appC (nmsB o i ++ nmsT t) = nmsB o i ++ nmsT t') ∧ C.foldl appC (nmsB o i ++ nmsT t) = nmsB o i) ∨
    ((pre ⟨room, false, l, F, nmsB o i ++ nmsT t, nmsB o i ++ nmsT t, []⟩).2 = 11 ∧ 0 ≤ l ∧ Torn room o s (pre ⟨room, false, l, F, nmsB o i ++ nmsT t, nmsB o i ++ nmsT t, []⟩).1) := by
  cases t with
  | none =>
    left
    have hr : readE ⟨room, false, l, F, nmsB o i ++ nmsT none, nmsB o i ++ nmsT none, []⟩ nN ≠ 0 := by
      cases o <;> simp [readE, nmsB, nmsT, lookN, mN, nN]
    unfold pre
    rw [if_neg hr]
    exact ⟨rfl, l, [], by simp [nmsT], fun _ => rfl, fun j => ⟨none, by simp⟩, by simp [nmsT]⟩
  | some k =>
    have hr : readE ⟨room, false, l, F, nmsB o i ++ nmsT (some k), nmsB o i ++ nmsT (some k), []⟩ nN = 0 := by
      cases o <;> simp [readE, nmsB, nmsT, lookN, mN, nN]
    have hs : (lookN (nmsB o i ++ nmsT (some k)) nN).isSome = true := by
      cases o <;> simp [nmsB, nmsT, lookN, mN, nN]
    have hdel : delN (nmsB o i ++ nmsT (some k)) nN = nmsB o i := by
      cases o <;> simp [nmsB, nmsT, delN, mN, nN]
    unfold pre
    rw [if_pos hr]
    by_cases h0 : l = 0
    · right
      obtain ⟨w1, w2⟩ := wr_no (st := ⟨room, false, l, F, nmsB o i ++ nmsT (some k), nmsB o i ++ nmsT (some k), []⟩) h0
      refine ⟨by simp [remE, w1], by omega, ?_⟩
      simp only [remS, w1, w2, Bool.false_and, Bool.false_eq_true, if_false]
      exact ⟨rfl, fun j => .inl ⟨i, some k, by simp, hh⟩⟩
    · left
      obtain ⟨w1, w2⟩ := wr_go (st := ⟨room, false, l, F, nmsB o i ++ nmsT (some k), nmsB o i ++ nmsT (some k), []⟩) rfl h0
      have hn : (lookN (nmsB o i ++ nmsT (some k)) nN).isNone = false := by rw [Option.isNone_eq_false_iff]; exact hs
      refine ⟨by simp only [remE, w1, hn, Bool.not_true, Bool.false_eq_true, if_false], nx l, [.del nN], ?_, nx_neg, fun j => ?_, ?_⟩
      · simp only [remS, w1, w2, hs, Bool.true_and, if_true, chg]
        simp only [appC, hdel, List.nil_append]
      · cases j with
        | zero => exact ⟨some k, by simp⟩
        | succ j => exact ⟨none, by simp only [List.take_succ_cons, List.take_nil, List.foldl_cons, List.foldl_nil, appC]; rw [hdel]; simp [nmsT]⟩
      · simp [appC, hdel]
theorem used_is (l' : Int) (L : Nms) (C : List Chg) (hh : has o i F) : used ⟨room, false, l', F, nmsB o i, L, C⟩ ≤ szO o := by
  cases o with
  | none => simp [used, nmsB]
  | some x =>
    have h1 := hh x rfl
    simp only [szO, used, nmsB, List.map_cons, List.map_nil, List.sum_cons, List.sum_nil, List.getD_eq_getElem?_getD, h1.1, Option.getD_some]
    omega
theorem has_app (hh : has o i F) (f : FileS) : has o i (F ++ [f]) := fun x hx => by
  have h1 := hh x hx
  have h2 := (List.getElem?_eq_some_iff.1 h1.1).1
  exact ⟨by rw [List.getElem?_append_left h2]; exact h1.1, h1.2⟩
theorem has_new (hs : s.length ≤ 1000) : has (some s) F.length (F ++ [⟨s, s.length⟩]) := fun x hx => by
  obtain rfl := Option.some.inj hx
  exact ⟨by simp, hs⟩
/-- Publishing where o holds: s holds now, or the power has failed. -/
theorem pub_is (t : Option Nat) (hh : has o i F) (hs : s.length ≤ 1000) (hr : (szO o : Int) + (s.length : Int) ≤ room) {st : St} (hst : st = ⟨room, false, l, F, nmsB o i ++ nmsT t, nmsB o i ++ nmsT t, []⟩) :
    ((pub s st).2 = 0 ∧ (∃ l', Only room l' (some s) (pub s st).1 ∧ (l < 0 → l' = l))) ∨ ((pub s st).2 = 11 ∧ 0 ≤ l ∧ Torn room o s (pub s st).1) := by
  have hpre := pre_is (room := room) (l := l) (F := F) (o := o) (i := i) (s := s) t hh
  rw [← hst] at hpre
  have em : isName mN = true := by decide
  have en : isName nN = true := by decide
  rcases hpre with ⟨p1, l1, C, p2, p3, p4, p5⟩ | ⟨p1, p2, p3⟩
  rotate_left
  · have e1 : pub1 s st = pre st := thn_no (by rw [p1]; decide) _ _
    have e2 : pub2 s st = pre st := by unfold pub2; rw [e1]; exact thn_no (by rw [p1]; decide) _ _
    have e3 : pub3 s st = pre st := by unfold pub3; rw [e2]; exact thn_no (by rw [p1]; decide) _ _
    have e4 : pub s st = pre st := by unfold pub; rw [e3]; exact thn_no (by rw [p1]; decide) _ _
    rw [e4]
    exact .inr ⟨p1, p2, p3⟩
  have hl0 : ∀ x : Int, x = 0 → (l < 0 → x = l) → 0 ≤ l := fun x h1 h2 => by
    by_cases h : l < 0
    · have := h2 h; omega
    · omega
  -- append
  have e1 : pub1 s st = (appS (pre st).1 nN s, appE (pre st).1 nN s) := thn_ok p1 _ _
  by_cases h1 : l1 = 0
  · right
    obtain ⟨w1, w2⟩ := wr_no (st := (pre st).1) (by rw [p2]; exact h1)
    have e1' : pub1 s st = ({ (pre st).1 with dead := true }, 11) := by rw [e1]; simp [appS, appE, w1, w2]
    have e2 : pub2 s st = pub1 s st := thn_no (by rw [e1']; show (11 : Int) ≠ 0; decide) _ _
    have e3 : pub3 s st = pub1 s st := by unfold pub3; rw [e2]; exact thn_no (by rw [e1']; show (11 : Int) ≠ 0; decide) _ _
    have e4 : pub s st = pub1 s st := by unfold pub; rw [e3]; exact thn_no (by rw [e1']; show (11 : Int) ≠ 0; decide) _ _
    rw [e4, e1', p2]
    refine ⟨rfl, hl0 _ h1 p3, rfl, fun j => ?_⟩
    obtain ⟨t', ht⟩ := p4 j
    exact .inl ⟨i, t', ht, hh⟩
  obtain ⟨w1, w2⟩ := wr_go (st := (pre st).1) (by rw [p2]) (by rw [p2]; exact h1)
  rw [p2] at w1 w2
  have hlk : lookN (nmsB o i) nN = none := by cases o <;> simp [nmsB, lookN, mN, nN]
  have hln : (nmsB o i).length ≤ 1 := by cases o <;> simp [nmsB]
  have hfull : full (wrS ⟨room, false, l1, F, nmsB o i, nmsB o i ++ nmsT t, C⟩) nN s = false := by
    have hu := used_is (room := room) (nx l1) (nmsB o i ++ nmsT t) C hh
    rw [w2]
    unfold full
    simp only [hlk, Option.isNone_none, Bool.true_and, Bool.or_eq_false_iff, decide_eq_false_iff_not]
    constructor
    · push_cast
      omega
    · omega
  have hput : putN (nmsB o i) nN F.length = nmsB o i ++ nmsT (some F.length) := by
    cases o with
    | none => rfl
    | some x => rfl
  have e1' : pub1 s st = (⟨room, false, nx l1, F ++ [⟨s, 0⟩], nmsB o i ++ nmsT (some F.length), nmsB o i ++ nmsT t, C ++ [Chg.put nN F.length]⟩, 0) := by
    rw [e1, p2]
    simp only [appS, appE, w1, en, hfull, Bool.not_true, Bool.not_false, Bool.and_self, Bool.false_eq_true, if_true, if_false]
    rw [w2]
    simp only [addF, hlk, hput]
  have hcut : ∀ (C2 : List Chg) (N2 : Nms) (F2 : List FileS) (t2 : Nat), C2 = C ++ [Chg.put nN F.length] → has o i F2 → ∀ j, (∃ i' t', (C2.take j).foldl appC (nmsB o i ++ nmsT t) = nmsB o i' ++ nmsT t' ∧ has o i' F2) := by
    rintro C2 N2 F2 t2 rfl h2 j
    by_cases hj : j ≤ C.length
    · obtain ⟨t', ht⟩ := p4 j
      exact ⟨i, t', by rw [List.take_append_of_le_length hj]; exact ht, h2⟩
    · refine ⟨i, some F.length, ?_, h2⟩
      rw [List.take_of_length_le (by rw [List.length_append, List.length_singleton]; omega), List.foldl_append, p5]
      exact hput
  have hl1 : ∀ x : Int, x = 0 → x = nx l1 → 0 ≤ l := fun x h2 h3 => by
    by_cases h : l < 0
    · have := p3 h; rw [nx_neg (by omega)] at h3; omega
    · omega
  -- sync
  have e2 : pub2 s st = (syncS (pub1 s st).1 nN, syncE (pub1 s st).1 nN) := thn_ok (by rw [e1']) _ _
  by_cases h2 : nx l1 = 0
  · right
    obtain ⟨w1, w2⟩ := wr_no (st := (pub1 s st).1) (by rw [e1']; exact h2)
    have e2' : pub2 s st = ({ (pub1 s st).1 with dead := true }, 11) := by rw [e2]; simp [syncS, syncE, w1, w2]
    have e3 : pub3 s st = pub2 s st := thn_no (by rw [e2']; show (11 : Int) ≠ 0; decide) _ _
    have e4 : pub s st = pub2 s st := by unfold pub; rw [e3]; exact thn_no (by rw [e2']; show (11 : Int) ≠ 0; decide) _ _
    rw [e4, e2', e1']
    exact ⟨rfl, hl1 _ h2 rfl, rfl, fun j => .inl (hcut _ [] _ 0 rfl (has_app hh _) j)⟩
  have hlk2 : lookN (nmsB o i ++ nmsT (some F.length)) nN = some F.length := by cases o <;> simp [nmsB, nmsT, lookN, mN, nN]
  obtain ⟨x1, x2⟩ := wr_go (st := (pub1 s st).1) (by rw [e1']) (by rw [e1']; exact h2)
  rw [e1'] at x1 x2
  have e2' : pub2 s st = (⟨room, false, nx (nx l1), F ++ [⟨s, s.length⟩], nmsB o i ++ nmsT (some F.length), nmsB o i ++ nmsT t, C ++ [Chg.put nN F.length]⟩, 0) := by
    rw [e2, e1']
    simp only [syncS, syncE, x1, hlk2, Bool.not_true, Option.isNone_some, Bool.false_eq_true, if_true, if_false]
    rw [x2]
    simp only [syncF, hlk2, modify_snoc]
  -- rename
  have hl2 : ∀ x : Int, x = 0 → x = nx (nx l1) → 0 ≤ l := fun x h2 h3 => by
    by_cases h : l < 0
    · have := p3 h; rw [nx_neg (by rw [nx_neg (by omega)]; omega), nx_neg (by omega)] at h3; omega
    · omega
  have e3 : pub3 s st = (renS (pub2 s st).1 nN mN, renE (pub2 s st).1 nN mN) := thn_ok (by rw [e2']) _ _
  by_cases h3 : nx (nx l1) = 0
  · right
    obtain ⟨w1, w2⟩ := wr_no (st := (pub2 s st).1) (by rw [e2']; exact h3)
    have e3' : pub3 s st = ({ (pub2 s st).1 with dead := true }, 11) := by rw [e3]; simp [renS, renE, w1, w2]
    have e4 : pub s st = pub3 s st := thn_no (by rw [e3']; show (11 : Int) ≠ 0; decide) _ _
    rw [e4, e3', e2']
    exact ⟨rfl, hl2 _ h3 rfl, rfl, fun j => .inl (hcut _ [] _ 0 rfl (has_app hh _) j)⟩
  obtain ⟨y1, y2⟩ := wr_go (st := (pub2 s st).1) (by rw [e2']) (by rw [e2']; exact h3)
  rw [e2'] at y1 y2
  have hmv : appC (nmsB o i ++ nmsT (some F.length)) (.move nN mN F.length) = [(mN, F.length)] := by
    cases o <;> rfl
  have e3' : pub3 s st = (⟨room, false, nx (nx (nx l1)), F ++ [⟨s, s.length⟩], [(mN, F.length)], nmsB o i ++ nmsT t, C ++ [Chg.put nN F.length] ++ [Chg.move nN mN F.length]⟩, 0) := by
    rw [e3, e2']
    simp only [renS, renE, y1, hlk2, em, Option.isSome_some, Option.isNone_some, Bool.not_true, Bool.and_self, Bool.false_eq_true, if_true, if_false, Option.getD_some]
    rw [y2]
    simp only [chg, hmv]
  -- the names
  have hl3 : ∀ x : Int, x = 0 → x = nx (nx (nx l1)) → 0 ≤ l := fun x h2 h3 => by
    by_cases h : l < 0
    · have h4 := p3 h
      rw [nx_neg (l := l1) (by omega), nx_neg (l := l1) (by omega), nx_neg (l := l1) (by omega)] at h3; omega
    · omega
  have e4 : pub s st = (snS (pub3 s st).1, snE (pub3 s st).1) := thn_ok (by rw [e3']) _ _
  have hall : ∀ j, ((C ++ [Chg.put nN F.length] ++ [Chg.move nN mN F.length]).take j).foldl appC (nmsB o i ++ nmsT t) = [(mN, F.length)] ∨ ∃ i' t', ((C ++ [Chg.put nN F.length] ++ [Chg.move nN mN F.length]).take j).foldl appC (nmsB o i ++ nmsT t) = nmsB o i' ++ nmsT t' ∧ has o i' (F ++ [⟨s, s.length⟩]) := by
    intro j
    by_cases hj : j ≤ (C ++ [Chg.put nN F.length]).length
    · right
      rw [List.take_append_of_le_length hj]
      exact hcut _ [] _ 0 rfl (has_app hh _) j
    · left
      rw [List.take_of_length_le (by rw [List.length_append, List.length_singleton]; omega), List.foldl_append, List.foldl_append, p5]
      simp only [List.foldl_cons, List.foldl_nil]
      rw [show appC (nmsB o i) (.put nN F.length) = putN (nmsB o i) nN F.length from rfl, hput, hmv]
  by_cases h4 : nx (nx (nx l1)) = 0
  · right
    obtain ⟨w1, w2⟩ := wr_no (st := (pub3 s st).1) (by rw [e3']; exact h4)
    have e4' : pub s st = ({ (pub3 s st).1 with dead := true }, 11) := by rw [e4]; simp [snS, snE, w1, w2]
    rw [e4', e3']
    refine ⟨rfl, hl3 _ h4 rfl, rfl, fun j => ?_⟩
    rcases hall j with h | ⟨i', t', h, h'⟩
    · exact .inr ⟨F.length, h, has_new hs⟩
    · exact .inl ⟨i', t', h, h'⟩
  · left
    obtain ⟨z1, z2⟩ := wr_go (st := (pub3 s st).1) (by rw [e3']) (by rw [e3']; exact h4)
    rw [e3'] at z1 z2
    have hL : ((C ++ [Chg.put nN F.length] ++ [Chg.move nN mN F.length])).foldl appC (nmsB o i ++ nmsT t) = [(mN, F.length)] := by
      rw [List.foldl_append, List.foldl_append, p5]
      simp only [List.foldl_cons, List.foldl_nil]
      rw [show appC (nmsB o i) (.put nN F.length) = putN (nmsB o i) nN F.length from rfl, hput, hmv]
    have e4' : pub s st = (⟨room, false, nx (nx (nx (nx l1))), F ++ [⟨s, s.length⟩], [(mN, F.length)], [(mN, F.length)], []⟩, 0) := by
      rw [e4, e3']
      simp only [snS, snE, z1, Bool.not_true, Bool.false_eq_true, if_true, if_false]
      rw [z2]
      simp only [Dsk.settle]
      rw [List.take_of_length_le (Nat.le_refl _), hL]
    rw [e4']
    refine ⟨rfl, _, ⟨F.length, _, rfl, has_new hs⟩, fun h => ?_⟩
    have h5 := p3 h
    rw [nx_neg (l := l1) (by omega), nx_neg (l := l1) (by omega), nx_neg (l := l1) (by omega), nx_neg (l := l1) (by omega), h5]
end
theorem Held.pub {room l : Int} {o : Option Str} {s : Str} {st : St} (h : Held room l o st) (hs : s.length ≤ 1000) (hr : (szO o : Int) + (s.length : Int) ≤ room) :
    ((Mf.pub s st).2 = 0 ∧ (∃ l', Only room l' (some s) (Mf.pub s st).1 ∧ (l < 0 → l' = l))) ∨ ((Mf.pub s st).2 = 11 ∧ 0 ≤ l ∧ Torn room o s (Mf.pub s st).1) := by
  obtain ⟨i, t, F, h1, h2⟩ := h
  exact pub_is t h2 hs hr h1
end Mf
end Go.Proofs.YtjpgglajcelllaaDoor
