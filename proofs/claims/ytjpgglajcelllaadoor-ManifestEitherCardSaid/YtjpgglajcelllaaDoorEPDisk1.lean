/- Parts, put together: DiskPure, DiskKit, DiskFile, DiskState. -/
import Derived.Test.YtjpgglajcelllaaDoorRows
import Derived.Test.YtjpgglajcelllaaDoorEPObj
import Derived.Maps.OwnSet
import Derived.Maps.Ext
import Derived.Sort.KeysCollected
import Derived.WalkKit
import Derived.WalkSpells
import Derived.WalkLawsBesides
import Derived.Handy
import Derived.Below
import Derived.OneCell
import Derived.Lib.Hide
import Derived.Lib.FrozenHead
import Derived.Maps.OwnOps
import Derived.Maps.AppendAt
import Derived.Maps.RangeWalk
import Derived.Laws.Externs
import Derived.Laws.BitsLemmas
import Derived.Lib.Strings
import Derived.Lib.Slices
import Derived.Outline
set_option maxRecDepth 100000
/- The document's disk (layer 4) as plain data: names in rising order, each for a file's number; changes of names; what each call does. Own words on what a map of names reads as. -/
section
namespace Go.Proofs.YtjpgglajcelllaaDoor
namespace Dsk
open Go.Maps
abbrev Str := List UInt8
abbrev Nms := List (Str × Nat)
/-- A file: its bytes, of which so many last. -/
structure FileS where
  s : Str
  lasts : Nat
  deriving Inhabited
/-- A change of names. -/
inductive Chg where
  | put (to : Str) (file : Nat)
  | move (a b : Str) (file : Nat)
  | del (a : Str)
def insN (x : Str × Nat) : Nms → Nms
  | [] => [x]
  | y :: r => if bytesBefore x.1 y.1 then x :: y :: r else y :: insN x r
def delN (N : Nms) (k : Str) : Nms := N.filter fun p => !(p.1 == k)
def putN (N : Nms) (k : Str) (i : Nat) : Nms := insN (k, i) (delN N k)
def lookN (N : Nms) (k : Str) : Option Nat := (N.find? fun p => p.1 == k).map (·.2)
def appC (N : Nms) : Chg → Nms
  | .put k i => putN N k i
  | .move a b i => putN (delN N a) b i
  | .del a => delN N a
/-- File number i's block. -/
def blk (fs : List Nat) (i : Nat) : Nat := fs.getD i 0
/-- What a map of names reads as, file number i lying in block 'fs[i]'. -/
def ent (fs : List Nat) (p : Str × Nat) : Lit × DataW Unit := (.string p.1, .lit (.int .i64 ((blk fs p.2 : Nat) : Int)))
def toD (fs : List Nat) (N : Nms) : DataW Unit := .map (N.map (ent fs))
theorem same_str (a b : Str) : (Lit.string a).sameKey (.string b) = (a == b) := rfl
theorem ent_filter (fs : List Nat) (k : Str) : ∀ N : Nms, (N.map (ent fs)).filter (fun p => !p.1.sameKey (.string k)) = (delN N k).map (ent fs)
  | [] => rfl
  | p :: r => by
    have ih := ent_filter fs k r
    unfold delN at ih ⊢
    rw [List.map_cons, List.filter_cons, List.filter_cons, ih]
    show (if (!(Lit.string p.1).sameKey (.string k)) = true then _ else _) = _
    rw [same_str]
    split <;> rfl
theorem ent_insert (fs : List Nat) (x : Str × Nat) : ∀ N : Nms, DataW.insert (ent fs x) (N.map (ent fs)) = (insN x N).map (ent fs)
  | [] => rfl
  | y :: r => by
    unfold DataW.insert insN
    show (if bytesBefore x.1 y.1 = true then _ else _) = _
    split
    · simp [List.map]
    · rw [List.map_cons]; exact congrArg _ (ent_insert fs x r)
theorem toD_del (fs : List Nat) (N : Nms) (k : Str) : (toD fs N).del (.string k) = toD fs (delN N k) := by
  unfold toD DataW.del; simp only; rw [ent_filter]
theorem toD_put (fs : List Nat) (N : Nms) (k : Str) (i : Nat) : (toD fs N).put (.string k) (.lit (.int .i64 ((blk fs i : Nat) : Int))) = toD fs (putN N k i) := by
  unfold toD DataW.put putN; simp only; rw [ent_filter]; exact congrArg _ (ent_insert fs (k, i) _)
theorem toD_size (fs : List Nat) (N : Nms) : Maps.size (toD fs N) = N.length := by simp [toD, Maps.size]
theorem toD_at (fs : List Nat) (N : Nms) (k : Str) (z : DataW Unit) : (toD fs N).atKey (.string k) z = match lookN N k with | some i => .lit (.int .i64 ((blk fs i : Nat) : Int)) | none => z := by
  unfold toD DataW.atKey lookN
  simp only
  induction N with
  | nil => rfl
  | cons p r ih =>
    rw [List.map_cons, List.find?_cons, List.find?_cons]
    have e : ((ent fs p).1.sameKey (.string k)) = (p.1 == k) := rfl
    rw [e]
    cases h : (p.1 == k) with
    | true => rfl
    | false => exact ih
theorem toD_has (fs : List Nat) (N : Nms) (k : Str) : Maps.has (toD fs N) (.string k) = (lookN N k).isSome := by
  unfold toD Maps.has lookN
  simp only
  induction N with
  | nil => rfl
  | cons p r ih =>
    rw [List.map_cons, List.any_cons, List.find?_cons]
    have e : ((ent fs p).1.sameKey (.string k)) = (p.1 == k) := rfl
    rw [e]
    cases h : (p.1 == k) with
    | true => rfl
    | false => exact ih
theorem toD_keys (fs : List Nat) (N : Nms) : strKeys (toD fs N) = N.map (·.1) := by
  unfold toD strKeys
  simp only [List.map_map]
  rfl
theorem toD_more {fs : List Nat} {N : Nms} (h : ∀ p ∈ N, p.2 < fs.length) (e : List Nat) : toD (fs ++ e) N = toD fs N := by
  unfold toD
  congr 1
  apply List.map_congr_left
  intro p hp
  unfold ent
  have := h p hp
  simp [blk, List.getD_eq_getElem?_getD, List.getElem?_append_left this]
/-! ### names in rising order -/
def Rising (N : Nms) : Prop := N.Pairwise fun p q => bytesBefore p.1 q.1 = true
theorem mem_insN {x q : Str × Nat} : ∀ {N : Nms}, q ∈ insN x N ↔ q = x ∨ q ∈ N
  | [] => by simp [insN]
  | y :: r => by
    unfold insN
    split
    · simp
    · rw [List.mem_cons, mem_insN, List.mem_cons]
      constructor
      · rintro (h | h | h) <;> simp [h]
      · rintro (h | h | h) <;> simp [h]
theorem mem_delN {q : Str × Nat} {N : Nms} {k : Str} : q ∈ delN N k ↔ q ∈ N ∧ q.1 ≠ k := by
  unfold delN; simp
theorem mem_putN {q : Str × Nat} {N : Nms} {k : Str} {i : Nat} : q ∈ putN N k i ↔ q = (k, i) ∨ (q ∈ N ∧ q.1 ≠ k) := by
  unfold putN; rw [mem_insN, mem_delN]
theorem Rising.del {N : Nms} (h : Rising N) (k : Str) : Rising (delN N k) := List.Pairwise.sublist List.filter_sublist h
theorem rising_ins {x : Str × Nat} : ∀ {N : Nms}, Rising N → (∀ p ∈ N, p.1 ≠ x.1) → Rising (insN x N)
  | [], _, _ => by simp [insN, Rising]
  | y :: r, h, hx => by
    unfold insN
    have hy : ∀ q ∈ r, bytesBefore y.1 q.1 = true := fun q hq => List.rel_of_pairwise_cons h hq
    have ht : Rising r := List.Pairwise.of_cons h
    by_cases hb : bytesBefore x.1 y.1 = true
    · rw [if_pos hb]
      refine List.Pairwise.cons ?_ h
      intro q hq
      rcases List.mem_cons.1 hq with rfl | hq
      · exact hb
      · exact WideShapes.bytes_trans _ _ _ hb (hy q hq)
    · rw [if_neg hb]
      refine List.Pairwise.cons ?_ (rising_ins ht fun p hp => hx p (List.mem_cons_of_mem _ hp))
      intro q hq
      rcases mem_insN.1 hq with rfl | hq
      · rcases WideAt.bytes_total _ _ (hx y List.mem_cons_self) with h1 | h1
        · exact h1
        · exact absurd h1 hb
      · exact hy q hq
theorem Rising.put {N : Nms} (h : Rising N) (k : Str) (i : Nat) : Rising (putN N k i) :=
  rising_ins (h.del k) fun _ hp => (mem_delN.1 hp).2
theorem Rising.app {N : Nms} (h : Rising N) (c : Chg) : Rising (appC N c) := by
  cases c with
  | put k i => exact h.put k i
  | move a b i => exact (h.del a).put b i
  | del a => exact h.del a
theorem Rising.apps {N : Nms} (h : Rising N) : ∀ (C : List Chg), Rising (C.foldl appC N)
  | [] => h
  | c :: r => Rising.apps (h.app c) r
theorem before_ne {a b : Str} (h : bytesBefore a b = true) : a ≠ b := by
  rintro rfl; rw [WideAt.bytes_irrefl] at h; cases h
theorem look_of_mem {N : Nms} (h : Rising N) {k : Str} {i : Nat} (hm : (k, i) ∈ N) : lookN N k = some i := by
  induction N with
  | nil => cases hm
  | cons p r ih =>
    unfold lookN
    rw [List.find?_cons]
    rcases List.mem_cons.1 hm with rfl | hm
    · simp
    · have hb := before_ne (List.rel_of_pairwise_cons h hm)
      have e : (p.1 == k) = false := by simpa using hb
      rw [e]
      exact ih (List.Pairwise.of_cons h) hm
theorem mem_of_look {N : Nms} {k : Str} {i : Nat} (h : lookN N k = some i) : (k, i) ∈ N := by
  unfold lookN at h
  obtain ⟨p, hp, rfl⟩ := Option.map_eq_some_iff.1 h
  have h1 := List.mem_of_find?_eq_some hp
  have h2 := List.find?_some hp
  simp at h2
  rw [← h2]; exact h1
theorem look_none {N : Nms} {k : Str} (h : lookN N k = none) : ∀ p ∈ N, p.1 ≠ k := by
  unfold lookN at h
  have := List.find?_eq_none.1 (Option.map_eq_none_iff.1 h)
  intro p hp; simpa using this p hp
theorem len_ins (x : Str × Nat) : ∀ N : Nms, (insN x N).length = N.length + 1
  | [] => rfl
  | y :: r => by unfold insN; split <;> simp [len_ins x r]
theorem len_del_le (N : Nms) (k : Str) : (delN N k).length ≤ N.length := List.length_filter_le _ _
theorem len_del_some {N : Nms} {k : Str} {i : Nat} (h : lookN N k = some i) : (delN N k).length + 1 ≤ N.length := by
  have hm := mem_of_look h
  unfold delN
  have := List.length_filter_lt_length_iff_exists (l := N) (p := fun p => !(p.1 == k))
  have := this.2 ⟨_, hm, by simp⟩
  omega
theorem len_put_le (N : Nms) (k : Str) (i : Nat) : (putN N k i).length ≤ N.length + 1 := by
  unfold putN; rw [len_ins]; have := len_del_le N k; omega
/-! ### sorting the keys of rising names gives the keys -/
theorem before_lt : ∀ (a b : Str), bytesBefore a b = true ↔ a < b
  | [], [] => by simp [bytesBefore]
  | [], _ :: _ => by simp [bytesBefore]
  | _ :: _, [] => by simp [bytesBefore]
  | a :: r, b :: s => by
    rw [List.cons_lt_cons_iff, ← before_lt r s]
    simp [bytesBefore]
theorem sorted_names {N : Nms} (h : Rising N) {ss : List Str} (hp : ss.Perm (N.map (·.1))) : ss.mergeSort (fun x y => decide (x ≤ y)) = N.map (·.1) := by
  have hs : (ss.mergeSort (fun x y => decide (x ≤ y))).Pairwise (fun x y => decide (x ≤ y) = true) :=
    List.pairwise_mergeSort (le := fun x y => decide (x ≤ y)) (fun a b c h1 h2 => by simp only [decide_eq_true_eq] at *; exact List.le_trans h1 h2)
      (fun a b => by simp only [Bool.or_eq_true, decide_eq_true_eq]; exact List.le_total a b) ss
  have hq : (ss.mergeSort (fun x y => decide (x ≤ y))).Perm (N.map (·.1)) := (List.mergeSort_perm _ _).trans hp
  have hN : (N.map (·.1)).Pairwise (fun x y => decide (x ≤ y) = true) := by
    rw [List.pairwise_map]
    refine h.imp ?_
    intro p q hb
    simp only [decide_eq_true_eq]
    exact List.le_of_lt ((before_lt _ _).1 hb)
  refine hq.eq_of_pairwise ?_ hs hN
  intro a b _ _ h1 h2
  simp only [decide_eq_true_eq] at h1 h2
  exact List.le_antisymm h1 h2
/-! ### the disk -/
structure St where
  room : Int
  dead : Bool
  left : Int
  F : List FileS
  N : Nms
  L : Nms
  C : List Chg
def new (room : Int) : St := ⟨room, false, -1, [], [], [], []⟩
def isSign (c : UInt8) : Bool := (97 ≤ c && c ≤ 122) || (48 ≤ c && c ≤ 57) || c == 46 || c == 45
def isName (s : Str) : Bool := decide (1 ≤ s.length) && decide (s.length ≤ 32) && s.all isSign
def used (st : St) : Nat := (st.N.map fun p => (st.F.getD p.2 default).s.length).sum
/-- May a write go? It is counted. -/
def wrB (st : St) : Bool := !(st.dead || st.left == 0)
def wrS (st : St) : St := if st.dead || st.left == 0 then { st with dead := true } else if 0 < st.left then { st with left := st.left - 1 } else st
/-- Behind the write's count. -/
def addF (st : St) (name s : Str) : St :=
  match lookN st.N name with
  | some i => { st with F := st.F.modify i fun f => { f with s := f.s ++ s } }
  | none => { st with F := st.F ++ [⟨s, 0⟩], N := putN st.N name st.F.length, C := st.C ++ [.put name st.F.length] }
def full (st : St) (name s : Str) : Bool := decide (st.room < (used st + s.length : Nat)) || ((lookN st.N name).isNone && decide (st.N.length = 64))
def appE (st : St) (name s : Str) : Int := if !wrB st then 11 else if !isName name then 3 else if full (wrS st) name s then 4 else 0
def appS (st : St) (name s : Str) : St := if wrB st && isName name && !full (wrS st) name s then addF (wrS st) name s else wrS st
def syncF (st : St) (name : Str) : St :=
  match lookN st.N name with
  | some i => { st with F := st.F.modify i fun f => { f with lasts := f.s.length } }
  | none => st
def syncE (st : St) (name : Str) : Int := if !wrB st then 11 else if (lookN st.N name).isNone then 12 else 0
def syncS (st : St) (name : Str) : St := if wrB st then syncF (wrS st) name else wrS st
def chg (st : St) (c : Chg) : St := { st with N := appC st.N c, C := st.C ++ [c] }
def renE (st : St) (a b : Str) : Int := if !wrB st then 11 else if (lookN st.N a).isNone then 12 else if !isName b then 3 else 0
def renS (st : St) (a b : Str) : St := if wrB st && (lookN st.N a).isSome && isName b then chg (wrS st) (.move a b ((lookN st.N a).getD 0)) else wrS st
def remE (st : St) (a : Str) : Int := if !wrB st then 11 else if (lookN st.N a).isNone then 12 else 0
def remS (st : St) (a : Str) : St := if wrB st && (lookN st.N a).isSome then chg (wrS st) (.del a) else wrS st
def settle (st : St) (n : Nat) : St := { st with L := (st.C.take n).foldl appC st.L, C := [] }
def snE (st : St) : Int := if !wrB st then 11 else 0
def snS (st : St) : St := if wrB st then settle (wrS st) st.C.length else wrS st
def readE (st : St) (k : Str) : Int := if st.dead then 11 else if (lookN st.N k).isNone then 12 else 0
def readA (st : St) (k : Str) : Str := if st.dead then [] else match lookN st.N k with | some i => (st.F.getD i default).s | none => []
def names (st : St) : List Str := if st.dead then [] else st.N.map (·.1)
def fuse (st : St) (n : Int) : St := if st.dead then st else { st with left := max (-1) n }
def kept1 (keep : List Int) (n : Nat) : Nat :=
  match keep with
  | [] => 0
  | x :: _ => (x % 18446744073709551616).toNat % (n + 1)
def cutF (f : FileS) (m : Nat) : FileS := ⟨f.s.take m, m⟩
def cutAll : List Int → Nms → List FileS → List FileS
  | _, [], F => F
  | keep, p :: r, F => cutAll (keep.drop 1) r (F.modify p.2 fun f => cutF f (f.lasts + kept1 keep (f.s.length - f.lasts)))
def crash (st : St) (keep : List Int) : St :=
  let N := (st.C.take (kept1 keep st.C.length)).foldl appC st.L
  { room := st.room, dead := false, left := -1, F := cutAll (keep.drop 1) N st.F, N := N, L := N, C := [] }
/-! ### what holds of a disk that is used as the chapter says -/
def okC (N : Nms) : Chg → Prop
  | .put k _ => lookN N k = none ∧ N.length < 64
  | .move a _ i => lookN N a = some i
  | .del a => (lookN N a).isSome
def Good : Nms → List Chg → Prop
  | _, [] => True
  | N, c :: r => okC N c ∧ Good (appC N c) r
def nameOk (k : Str) : Prop := 1 ≤ k.length ∧ k.length ≤ 32
def chOk (n : Nat) : Chg → Prop
  | .put k i => nameOk k ∧ i < n
  | .move a b i => nameOk a ∧ nameOk b ∧ i < n
  | .del a => nameOk a
structure Fine (st : St) : Prop where
  rising : Rising st.L
  now : st.N = st.C.foldl appC st.L
  good : Good st.L st.C
  ins : ∀ p ∈ st.L, p.2 < st.F.length
  len : st.L.length ≤ 64
  nmL : ∀ p ∈ st.L, nameOk p.1
  chs : ∀ c ∈ st.C, chOk st.F.length c
  lasts : ∀ f ∈ st.F, f.lasts ≤ f.s.length
  left : -1 ≤ st.left
def newOf (q : Str × Nat) : Chg → Prop
  | .put k i => q = (k, i)
  | .move _ b i => q = (b, i)
  | .del _ => False
theorem mem_appC {N : Nms} {c : Chg} {q : Str × Nat} (h : q ∈ appC N c) : q ∈ N ∨ newOf q c := by
  cases c with
  | put k i =>
    rcases mem_putN.1 h with h | h
    · exact .inr h
    · exact .inl h.1
  | move a b i =>
    rcases mem_putN.1 h with h | h
    · exact .inr h
    · exact .inl (mem_delN.1 h.1).1
  | del a => exact .inl (mem_delN.1 h).1
theorem len_appC {N : Nms} {c : Chg} (h : N.length ≤ 64) (ho : okC N c) : (appC N c).length ≤ 64 := by
  cases c with
  | put k i => have := len_put_le N k i; have := ho.2; show (putN N k i).length ≤ 64; omega
  | move a b i => have h1 := len_del_some ho; have := len_put_le (delN N a) b i; show (putN (delN N a) b i).length ≤ 64; omega
  | del a => have := len_del_le N a; show (delN N a).length ≤ 64; omega
/-- What holds of names that changes lead to. -/
structure NmOk (n : Nat) (N : Nms) : Prop where
  rising : Rising N
  ins : ∀ p ∈ N, p.2 < n
  len : N.length ≤ 64
  nm : ∀ p ∈ N, nameOk p.1
theorem NmOk.app {n : Nat} {N : Nms} {c : Chg} (h : NmOk n N) (ho : okC N c) (hc : chOk n c) : NmOk n (appC N c) := by
  refine ⟨h.rising.app c, fun p hp => ?_, len_appC h.len ho, fun p hp => ?_⟩
  · rcases mem_appC hp with hp | hp
    · exact h.ins p hp
    · cases c with
      | put k i => rw [show p = (k, i) from hp]; exact hc.2
      | move a b i => rw [show p = (b, i) from hp]; exact hc.2.2
      | del a => exact hp.elim
  · rcases mem_appC hp with hp | hp
    · exact h.nm p hp
    · cases c with
      | put k i => rw [show p = (k, i) from hp]; exact hc.1
      | move a b i => rw [show p = (b, i) from hp]; exact hc.2.1
      | del a => exact hp.elim
theorem NmOk.apps {n : Nat} : ∀ {C : List Chg} {N : Nms}, NmOk n N → Good N C → (∀ c ∈ C, chOk n c) → NmOk n (C.foldl appC N)
  | [], _, h, _, _ => h
  | c :: r, N, h, hg, hc => by
    have h1 := h.app hg.1 (hc c List.mem_cons_self)
    exact NmOk.apps (C := r) (N := appC N c) h1 hg.2 fun d hd => hc d (List.mem_cons_of_mem _ hd)
theorem good_take : ∀ {C : List Chg} {N : Nms} (k : Nat), Good N C → Good N (C.take k)
  | [], _, k, _ => by simp [Good]
  | c :: r, _, 0, _ => trivial
  | c :: r, _, k + 1, h => ⟨h.1, good_take k h.2⟩
theorem good_snoc : ∀ {C : List Chg} {N : Nms} {c : Chg}, Good N C → okC (C.foldl appC N) c → Good N (C ++ [c])
  | [], _, _, _, h => ⟨h, trivial⟩
  | _ :: _, _, _, hg, h => ⟨hg.1, good_snoc hg.2 h⟩
theorem good_at : ∀ {C : List Chg} {N : Nms} {c : Chg} (k : Nat), Good N C → C[k]? = some c → okC ((C.take k).foldl appC N) c
  | [], _, _, k, _, h => by simp at h
  | _ :: _, _, _, 0, hg, h => by simp at h; subst h; exact hg.1
  | _ :: _, _, _, k + 1, hg, h => good_at k hg.2 (by simpa using h)
theorem Fine.nmL' {st : St} (h : Fine st) : NmOk st.F.length st.L := ⟨h.rising, h.ins, h.len, h.nmL⟩
theorem Fine.nmN {st : St} (h : Fine st) : NmOk st.F.length st.N := by rw [h.now]; exact h.nmL'.apps h.good h.chs
theorem Fine.nmK {st : St} (h : Fine st) (k : Nat) : NmOk st.F.length ((st.C.take k).foldl appC st.L) :=
  h.nmL'.apps (good_take k h.good) fun c hc => h.chs c (List.mem_of_mem_take hc)
theorem NmOk.mono {n m : Nat} {N : Nms} (h : NmOk n N) (hm : n ≤ m) : NmOk m N := ⟨h.rising, fun p hp => Nat.lt_of_lt_of_le (h.ins p hp) hm, h.len, h.nm⟩
theorem chOk.mono {n m : Nat} {c : Chg} (h : chOk n c) (hm : n ≤ m) : chOk m c := by
  cases c with
  | put k i => exact ⟨h.1, Nat.lt_of_lt_of_le h.2 hm⟩
  | move a b i => exact ⟨h.1, h.2.1, Nat.lt_of_lt_of_le h.2.2 hm⟩
  | del a => exact h
theorem fine_new (room : Int) : Fine (new room) := ⟨List.Pairwise.nil, rfl, trivial, by simp [new], by simp [new], by simp [new], by simp [new], by simp [new], by simp [new]⟩
theorem Fine.wr {st : St} (h : Fine st) : Fine (wrS st) := by
  unfold wrS
  split
  · exact { h with }
  · split
    · exact { h with left := by simp only; omega }
    · exact h
theorem wrS_F (st : St) : (wrS st).F = st.F := by unfold wrS; split; rfl; split <;> rfl
theorem wrS_N (st : St) : (wrS st).N = st.N := by unfold wrS; split; rfl; split <;> rfl
theorem wrS_C (st : St) : (wrS st).C = st.C := by unfold wrS; split; rfl; split <;> rfl
theorem Fine.modF {st : St} (h : Fine st) (i : Nat) (g : FileS → FileS) (hg : ∀ f, f.lasts ≤ f.s.length → (g f).lasts ≤ (g f).s.length) : Fine { st with F := st.F.modify i g } := by
  refine ⟨h.rising, h.now, h.good, fun p hp => by simpa using h.ins p hp, h.len, h.nmL, fun c hc => by simpa using h.chs c hc, ?_, h.left⟩
  intro f hf
  obtain ⟨j, hj, rfl⟩ := List.mem_iff_getElem.1 hf
  rw [List.getElem_modify]
  have hm : st.F[j]'(by simpa using hj) ∈ st.F := List.getElem_mem _
  split
  · exact hg _ (h.lasts _ hm)
  · exact h.lasts _ hm
theorem Fine.chg {st : St} (h : Fine st) {c : Chg} (ho : okC st.N c) (hc : chOk st.F.length c) : Fine (chg st c) := by
  refine ⟨h.rising, ?_, good_snoc h.good (by show okC (st.C.foldl appC st.L) c; rw [← h.now]; exact ho), h.ins, h.len, h.nmL, ?_, h.lasts, h.left⟩
  · show appC st.N c = (st.C ++ [c]).foldl appC st.L
    rw [List.foldl_append, ← h.now]; rfl
  · intro d hd
    rcases List.mem_append.1 hd with hd | hd
    · exact h.chs d hd
    · simp at hd; subst hd; exact hc
theorem Fine.settle {st : St} (h : Fine st) (n : Nat) (hn : st.C.length ≤ n) : Fine (settle st n) := by
  have hk := h.nmK n
  unfold Dsk.settle
  rw [List.take_of_length_le hn] at hk ⊢
  exact ⟨hk.rising, h.now, trivial, hk.ins, hk.len, hk.nm, by simp, h.lasts, h.left⟩
end Dsk
end Go.Proofs.YtjpgglajcelllaaDoor
end
/- Kit for the disk (layer 4): what a call leaves alone but for a set of blocks; a buffer of bytes whose head may be frozen, and append to it; maps whose elements are pointers to files. -/
section
namespace Go.Proofs.YtjpgglajcelllaaDoor
open Go.RowKit
namespace Dsk
open Go.Maps
/-! ### a buffer of bytes -/
/-- The slice v holds the bytes l, in row r (none: nil). -/
def BufAt (w : World) (v : Value) (r : Option Nat) (l : Str) : Prop := v.ownBlock = r ∧ w.ownsRowF 0 5 1 v l.length (Lib.byteCells l)
theorem BufAt.nil (w : World) : BufAt w (.slice none 0 0) none [] := ⟨rfl, World.ownsRowF_nil _ _ _ _⟩
theorem BufAt.lt {w : World} {v : Value} {r : Option Nat} {l : Str} (h : BufAt w v r l) : ∀ g, r = some g → g < w.heap.size := fun g hg => (h.2.lt g (h.1.trans hg)).2
theorem BufAt.kept {w w' : World} {v : Value} {r : Option Nat} {l : Str} (h : BufAt w v r l) (hk : ∀ g, r = some g → w'.heap[g]? = w.heap[g]?) : BufAt w' v r l := by
  refine ⟨h.1, h.2.1, ?_⟩
  rcases h.2.2 with hn | ⟨g, cap, cur, fz, rfl, hb, hg, r⟩
  · exact .inl hn
  · exact .inr ⟨g, cap, cur, fz, rfl, hb, (hk g h.1.symm).trans hg, r⟩
theorem BufAt.type {w : World} {v : Value} {r : Option Nat} {l : Str} (h : BufAt w v r l) : ∀ g, r = some g → ∃ c fz, w.heap[g]? = some (.cells c 5 fz) := by
  intro g hg
  rcases h.2.2 with ⟨rfl, _⟩ | ⟨g', cap, cur, fz, rfl, hb, hgg, _⟩
  · rw [← h.1] at hg; simp [Value.ownBlock] at hg
  · rw [← h.1] at hg; simp [Value.ownBlock] at hg; subst hg; exact ⟨_, _, hgg⟩
theorem BufAt.slice {w : World} {v : Value} {r : Option Nat} {l : Str} (h : BufAt w v r l) : ∃ a c, v = .slice a l.length c := by
  rcases h.2.2 with ⟨hv, h0⟩ | ⟨g, cap, cur, fz, hv, _⟩
  · exact ⟨none, 0, by rw [hv, h0]⟩
  · exact ⟨_, _, hv⟩
theorem infoByte : (Tryd.prog.info? 5).map (fun i => (i.zero, i.size, i.bytes)) = some (some (.int .u8 0), 1, 1) := by kernel_rfl
theorem cells_app (l : Str) (s : ByteArray) : Lib.byteCells l ++ Lib.strCells s = Lib.byteCells (l ++ s.data.toList) := by
  simp [Lib.byteCells, Lib.strCells]
theorem run_buf_append (w : World) (v : Value) (r : Option Nat) (l : Str) (h : BufAt w v r l) (s : ByteArray) (hlen : l.length + s.size ≤ 140737488355328) (ty : TypeId) :
    ∃ v' r' w', (Builtin.append_ #[98, 9] ty #[v, .string s]).run Tryd.prog w = .ok v' w' ∧ BufAt w' v' r' (l ++ s.data.toList) ∧ w.grownBy w' r ∧ (r' = r ∨ ∃ g, r' = some g ∧ w.heap.size ≤ g) := by
  obtain ⟨i0, hi, hz0, hz1, hz2⟩ := info_parts infoByte
  have hm : l.length + s.size ≤ maxLen := by unfold maxLen; omega
  have hlen2 : (l ++ s.data.toList).length = l.length + s.size := by simp
  obtain ⟨rfl, hown⟩ := h
  rcases hown.2 with ⟨rfl, h0⟩ | ⟨g, cap, cur, fz, rfl, hbg, hg, hfz, hnc, hcm, hcs, htake⟩
  · have hl : l = [] := List.eq_nil_of_length_eq_zero h0
    subst hl
    obtain ⟨v', w', h1, h2, h3, _⟩ := Lib.run_append_own_stringF (P := Tryd.prog) w w.heap.size 98 9 ty 5 i0 Tryd.underlying98 Tryd.underlying9 hi hz0 hz1 hz2 (.slice none 0 0) 0 [] (World.ownsRowF_nil _ _ _ _) s (by simpa using hm) (by simpa using hlen) (Nat.le_refl _)
    refine ⟨v', v'.ownBlock, w', h1, ⟨rfl, ?_, ?_⟩, h3, ?_⟩
    · simp [Lib.byteCells]
    · rcases h2.2 with ⟨hv, hn⟩ | ⟨g, cap, cur, fz, hv, _, r1, r2, r3, r4, r5, r6⟩
      · exact .inl ⟨hv, by simpa using hn⟩
      · refine .inr ⟨g, cap, cur, fz, ?_, Nat.zero_le _, r1, ?_, ?_, r4, r5, ?_⟩
        · rw [hv]; simp
        · simpa using r2
        · simpa using r3
        · have e := cells_app [] s; simp [Lib.byteCells] at e r6 ⊢; simpa [Lib.strCells] using r6
    · cases hv : v'.ownBlock with
      | none => exact .inl rfl
      | some g => exact .inr ⟨g, rfl, (h2.lt g hv).1⟩
  · by_cases hroom : l.length + s.size ≤ cap
    · have hcs' : cur.size = cap := by simpa using hcs
      have hr := Lib.run_append_room_stringF (P := Tryd.prog) w 98 9 ty 5 i0 Tryd.underlying98 Tryd.underlying9 hi hz1 g l.length cap cur fz hg (by simpa using hfz) s hroom (by omega)
      refine ⟨_, some g, _, hr, ⟨rfl, ?_, .inr ⟨g, cap, _, fz, ?_, Nat.zero_le _, setRow_heap w g cur _ _ _ hg, ?_, by omega, hcm, ?_, ?_⟩⟩, ⟨rfl, rfl, rfl, by simp, fun k _ hk => setRow_other w g k _ (fun e => hk (by simp [Value.ownBlock, e]))⟩, .inl rfl⟩
      · simp [Lib.byteCells]
      · rw [hlen2]
      · rw [hlen2]; omega
      · simp only [List.size_toArray, List.length_append, List.length_take, List.length_drop, Array.length_toList, Lib.strCells_length]
        omega
      · have ht' : cur.toList.take l.length = Lib.byteCells l := by simpa using htake
        rw [ht', ← cells_app]
        have e : (l ++ s.data.toList).length * 1 = (Lib.byteCells l ++ Lib.strCells s).length := by simp [Lib.byteCells, Lib.strCells]
        rw [e]
        exact List.take_left
    · have holds : ∀ j u, (Lib.byteCells l)[j]? = some u → w.cell? ((⟨g, 0, none⟩ : Addr).add j) = some u := hown.cells (g := g) rfl
      have hr := Lib.run_append_grow_string (P := Tryd.prog) w 98 9 ty 5 i0 (.int .u8 0) Tryd.underlying98 Tryd.underlying9 hi hz0 ⟨g, 0, none⟩ l.length cap (Lib.byteCells l) (by rw [hz1]; simp [Lib.byteCells]) holds s (by omega) (by unfold maxLen at hm; omega) (by rw [hz2]; exact growslice_fits (by omega) (by omega))
      have hge := grownCap_ge w (l.length + s.size) cap 5
      have hcm2 : grownCap w (l.length + s.size) cap 5 ≤ maxLen := grownCap_le_maxLen w (l.length + s.size) cap 5 hm
      refine ⟨_, some w.heap.size, _, hr, ⟨rfl, ?_, .inr ⟨w.heap.size, _, _, (0, 0), ?_, Nat.zero_le _, heap_alloc_new w.drew _, Nat.zero_le _, ?_, hcm2, ?_, ?_⟩⟩, ⟨rfl, rfl, rfl, by simp, fun k hk _ => Below.heap_alloc w.drew _ k hk⟩, .inr ⟨_, rfl, Nat.le_refl _⟩⟩
      · simp [Lib.byteCells]
      · rw [hlen2]
      · rw [hlen2]; exact hge
      · have hz1' : (Value.int IntKind.u8 0).cells.size = 1 := rfl
        simp only [Array.size_append, List.size_toArray, size_zeroCells, hz1', Lib.strCells_length, Lib.byteCells_length]
        omega
      · have e : (l ++ s.data.toList).length * 1 = (Lib.byteCells l ++ Lib.strCells s).length := by simp [Lib.byteCells, Lib.strCells]
        simp only [Array.toList_append, List.append_assoc]
        rw [← List.append_assoc, ← cells_app, e]
        exact List.take_left
theorem wpList_buf_append (w : World) {ops : Array Oper} {rest : List Oper} {o : Oper} {a : Act} {Q : Exit → Act → World → Prop} (hgd : o.guard = none) (sl x : Operand)
    (ho : o.op = .call { callee := .builtin .append, args := #[sl, x], argTypes := #[98, 9] })
    (v : Value) (r : Option Nat) (l : Str) (hs : a.eval sl = v) (h : BufAt w v r l) (s : ByteArray) (hx : a.eval x = .string s) (hlen : l.length + s.size ≤ 140737488355328)
    (hK : ∀ v' r' w', BufAt w' v' r' (l ++ s.data.toList) → w.grownBy w' r → (r' = r ∨ ∃ g, r' = some g ∧ w.heap.size ≤ g) → wpList Tryd.prog ops Q rest (a.put o.dst v') w') : wpList Tryd.prog ops Q (o :: rest) a w := by
  refine wpList_plain hgd fun K hK' => ?_
  obtain ⟨v', r', w', hr, h2, h3, h4⟩ := run_buf_append w v r l h s hlen o.type
  unfold Oper.wp execOp
  simp only [ho, resolve, invoke, builtin, Sem.run_bind, Sem.run_pure, Result.andThen_ok, List.map_toArray, List.map_cons, List.map_nil, hs, hx, hr]
  exact hK' _ _ (hK v' r' w' h2 h3 h4)
/-! ### maps of pointers to files -/
/-- How a pointer to a file reads: by its block's number. -/
def ptrElem : Value → Option (DataW Unit × List MemPlace)
  | .pointer none => some (.lit (.int .i64 (-1)), [])
  | .pointer (some ⟨b, 0, none⟩) => some (.lit (.int .i64 (b : Int)), [])
  | _ => none
theorem ptrElem_inv {v : Value} {n : Nat} {ps : List MemPlace} (h : ptrElem v = some (.lit (.int .i64 (n : Int)), ps)) : v = .pointer (some ⟨n, 0, none⟩) := by
  unfold ptrElem at h
  split at h
  · simp at h
  · rename_i b
    simp at h
    obtain ⟨h, _⟩ := h
    have : b = n := by omega
    rw [this]
  · cases h
theorem ptrElem_none {v : Value} {ps : List MemPlace} (h : ptrElem v = some (.lit (.int .i64 (-1)), ps)) : v = .pointer none := by
  unfold ptrElem at h
  split at h
  · rfl
  · simp at h
  · cases h
theorem keyed9 : Keyed Tryd.prog 9 := string_keyed Tryd.underlying9
theorem zeroP (w : World) : (zeroValue 96).run Tryd.prog w = .ok (.pointer none) w := by kernel_rfl
/-- The map in block b holds the names N, file number i in block 'fs[i]'. -/
def MapAt (w : World) (b : Nat) (fs : List Nat) (N : Nms) : Prop := w.ownsMap Tryd.prog 9 ptrElem b N.length (toD fs N)
theorem MapAt.of {w : World} {b n : Nat} {fs : List Nat} {N : Nms} (h : w.ownsMap Tryd.prog 9 ptrElem b n (toD fs N)) : MapAt w b fs N := by
  obtain ⟨es, clock, hb, F, hs, hD⟩ := h
  refine ⟨es, clock, hb, F, ?_, hD⟩
  have e := congrArg Maps.size hD
  rw [toD_size] at e
  simp only [Maps.size] at e
  rw [length_sorted] at e
  simp at e
  omega
theorem MapAt.lt {w : World} {b : Nat} {fs : List Nat} {N : Nms} (h : MapAt w b fs N) : b < w.heap.size := World.ownsMap.lt h
theorem MapAt.kept {w w' : World} {b : Nat} {fs : List Nat} {N : Nms} (h : MapAt w b fs N) (hk : w'.heap[b]? = w.heap[b]?) : MapAt w' b fs N := by
  obtain ⟨es, clock, hb, F, hs, hD⟩ := h
  exact ⟨es, clock, hk.trans hb, F, hs, hD⟩
theorem MapAt.more {w : World} {b : Nat} {fs : List Nat} {N : Nms} (h : MapAt w b fs N) (hi : ∀ p ∈ N, p.2 < fs.length) (e : List Nat) : MapAt w b (fs ++ e) N := by
  unfold MapAt; rw [toD_more hi]; exact h
/-- What a look-up tells. -/
def ptrOf (fs : List Nat) : Option Nat → Value
  | some i => .pointer (some ⟨blk fs i, 0, none⟩)
  | none => .pointer none
theorem wpList_lookup_run {P : Program} (w : World) {ops : Array Oper} {rest : List Oper} {o : Oper} {a : Act} {Q : Exit → Act → World → Prop}
    (hg : o.guard = none) (m x : Operand) (t : TypeId) (hop : o.op = Op.lookup t m x false) (mv key v : Value) (hm : a.eval m = mv) (hx : a.eval x = key) (hrun : (Instr.lookup t mv key false).run P w = .ok v w)
    (hK : wpList P ops Q rest (a.put o.dst v) w) : wpList P ops Q (o :: rest) a w := by
  refine wpList_plain hg fun K' hK' => ?_
  unfold Oper.wp
  simp [execOp, hop, hm, hx, hrun, Result.andThen]
  exact hK' _ _ hK
theorem wpList_look (w : World) {ops : Array Oper} {rest : List Oper} {o : Oper} {a : Act} {Q : Exit → Act → World → Prop}
    (hg : o.guard = none) (m x : Operand) (hop : o.op = Op.lookup 85 m x false) (b : Nat) (fs : List Nat) (N : Nms)
    (hm : a.eval m = .map (some b)) (h : MapAt w b fs N) (k : ByteArray) (hx : a.eval x = .string k) (hk : k.size ≤ maxLen)
    (hK : wpList Tryd.prog ops Q rest (a.put o.dst (ptrOf fs (lookN N k.data.toList))) w) :
    wpList Tryd.prog ops Q (o :: rest) a w := by
  obtain ⟨v, ps, hrun, hv⟩ := World.ownsMap.lookup h keyed9 Tryd.underlying85 (zeroP w) (zd := .lit (.int .i64 (-1))) (zp := []) rfl (WideMaps.keyOf_string_mk Tryd.underlying9 hk)
  rw [toD_at] at hv
  have hv' : v = ptrOf fs (lookN N k.data.toList) := by
    cases e : lookN N k.data.toList with
    | none => rw [e] at hv; exact ptrElem_none hv
    | some i => rw [e] at hv; exact ptrElem_inv hv
  subst hv'
  exact wpList_lookup_run w hg m x _ hop _ _ _ hm hx hrun hK
theorem wpList_putN (w : World) {ops : Array Oper} {rest : List Oper} {o : Oper} {a : Act} {Q : Exit → Act → World → Prop}
    (hg : o.guard = none) (m x y : Operand) (hop : o.op = Op.mapUpdate 85 m x y) (b : Nat) (fs : List Nat) (N : Nms)
    (hm : a.eval m = .map (some b)) (h : MapAt w b fs N) (hn : N.length < maxLen) (k : ByteArray) (hx : a.eval x = .string k) (hk : k.size ≤ maxLen) (i : Nat) (hy : a.eval y = .pointer (some ⟨blk fs i, 0, none⟩))
    (hK : ∀ w', MapAt w' b fs (putN N k.data.toList i) → w.grownBy w' (some b) → wpList Tryd.prog ops Q rest (a.put o.dst undef) w') :
    wpList Tryd.prog ops Q (o :: rest) a w :=
  wpList_mapUpdate_own w hg m x y _ hop 9 96 keyed9 Tryd.underlying85 ptrElem b N.length (toD fs N) hm h hn (.string k) (.pointer (some ⟨blk fs i, 0, none⟩)) (.string k.data.toList) hx hy (WideMaps.keyOf_string_mk Tryd.underlying9 hk)
    (.lit (.int .i64 ((blk fs i : Nat) : Int))) [] rfl (fun w' h1 h2 => hK w' (MapAt.of (by rw [← toD_put]; exact h1)) h2)
theorem wpList_delN (w : World) {ops : Array Oper} {rest : List Oper} {o : Oper} {a : Act} {Q : Exit → Act → World → Prop}
    (hg : o.guard = none) (m x : Operand) (hop : o.op = Op.call { callee := Callee.builtin Builtin.delete, args := #[m, x], argTypes := #[85, 9] }) (b : Nat) (fs : List Nat) (N : Nms)
    (hm : a.eval m = .map (some b)) (h : MapAt w b fs N) (k : ByteArray) (hx : a.eval x = .string k) (hk : k.size ≤ maxLen)
    (hK : ∀ w', MapAt w' b fs (delN N k.data.toList) → w.grownBy w' (some b) → wpList Tryd.prog ops Q rest (a.put o.dst (.tuple #[])) w') :
    wpList Tryd.prog ops Q (o :: rest) a w :=
  wpList_delete_own w hg m x _ _ hop 96 keyed9 Tryd.underlying85 ptrElem b N.length (toD fs N) hm h (.string k) (.string k.data.toList) hx (WideMaps.keyOf_string_mk Tryd.underlying9 hk)
    (fun w' h1 h2 => hK w' (MapAt.of (by rw [← toD_del]; exact h1)) h2.grown)
end Dsk
end Go.Proofs.YtjpgglajcelllaaDoor
end
/- What strings.Builder's methods do to a file of the disk (layer 4): a builder in a struct, written, read and written on; and (*file).cut. -/
section
namespace Go.Proofs.YtjpgglajcelllaaDoor
open Go.RowKit
namespace Dsk
open Go.Maps
/-- The file in block f: a builder that holds l (its buffer in row r), of which n bytes last. -/
def FileAt (w : World) (f : Nat) (r : Option Nat) (l : Str) (n : Nat) : Prop :=
  ∃ p v, (p = .pointer none ∨ p = .pointer (some ⟨f, 0, none⟩)) ∧ w.heap[f]? = some (.cells #[p, v, .int .i64 (n : Int)] 102 (0, 0)) ∧ BufAt w v r l
theorem FileAt.lt {w : World} {f : Nat} {r : Option Nat} {l : Str} {n : Nat} (h : FileAt w f r l n) : f < w.heap.size := by
  obtain ⟨p, v, _, hb, _⟩ := h; exact (Array.getElem?_eq_some_iff.1 hb).1
theorem FileAt.ne {w : World} {f : Nat} {r : Option Nat} {l : Str} {n : Nat} (h : FileAt w f r l n) : r ≠ some f := by
  obtain ⟨p, v, _, hb, hv⟩ := h
  intro e
  obtain ⟨c, fz, hc⟩ := hv.type f e
  rw [hb] at hc
  simp at hc
theorem FileAt.row {w : World} {f : Nat} {r : Option Nat} {l : Str} {n : Nat} (h : FileAt w f r l n) : ∀ g, r = some g → g < w.heap.size := by
  obtain ⟨p, v, _, hb, hv⟩ := h; exact hv.lt
theorem FileAt.kept {w w' : World} {f : Nat} {r : Option Nat} {l : Str} {n : Nat} (h : FileAt w f r l n) (hf : w'.heap[f]? = w.heap[f]?) (hr : ∀ g, r = some g → w'.heap[g]? = w.heap[g]?) : FileAt w' f r l n := by
  obtain ⟨p, v, hp, hb, hv⟩ := h
  exact ⟨p, v, hp, hf.trans hb, hv.kept hr⟩
/-- What a call that writes to a file leaves. -/
structure Wrote (f : Nat) (r : Option Nat) (l : Str) (n : Nat) (w w' : World) : Prop where
  file : ∃ r', FileAt w' f r' l n ∧ (r' = r ∨ r' = none ∨ ∃ g, r' = some g ∧ w.heap.size ≤ g)
  upon : Upon (fun k => k = f ∨ some k = r) w w'
set_option maxHeartbeats 1000000 in
set_option maxRecDepth 100000 in
theorem check_used (f : Nat) (w : World) (h0 : w.cell? ⟨f, 0, none⟩ = some (.pointer (some ⟨f, 0, none⟩))) :
    Calls Tryd.prog 91 #[.pointer (some ⟨f, 0, none⟩)] w fun e w' => e = .returned (.tuple #[]) ∧ w = w' := by
  obtain ⟨j, hj, _⟩ := Option.map_eq_some_iff.1 (show (Tryd.prog.info? 100).map (fun i => i.size) = some 2 by kernel_rfl)
  have hq := Lib.hid (Lib.run_neq_ptr_same (P := Tryd.prog) w ⟨f, 0, none⟩ Tryd.underlying97 hj)
  go_enter Tryd.func91, Tryd.ntmps91
  go_wp2
  rw [hq.out]
  go_wp2
  go_end0
  exact ⟨rfl, rfl⟩
set_option maxHeartbeats 1000000 in
set_option maxRecDepth 100000 in
theorem check_fresh (f : Nat) (c : Array Value) (w : World) (hc : c.size = 3) (hb : w.heap[f]? = some (.cells c 102 (0, 0))) (h0 : c[0]? = some (.pointer none)) :
    Calls Tryd.prog 91 #[.pointer (some ⟨f, 0, none⟩)] w fun e w' => e = .returned (.tuple #[]) ∧ w.setCell ⟨f, 0, none⟩ (.pointer (some ⟨f, 0, none⟩)) = w' := by
  obtain ⟨j, hj, hjs⟩ := Option.map_eq_some_iff.1 (show (Tryd.prog.info? 100).map (fun i => i.size) = some 2 by kernel_rfl)
  have hsh : w.shape? f = some (102, 3) := by simp [World.shape?, hb, hc]
  have c0 : w.cell? ⟨f, 0, none⟩ = some (.pointer none) := by rw [Lib.cell_of_heap hb]; exact h0
  have f0 : w.frozen? ⟨f, 0, none⟩ = false := Lib.frozen_of_heap hb 0
  have lies : liesAt Tryd.prog Tryd.prog.depth 102 (3 / Tryd.prog.cellsOf 102) 0 100 1 = true := by kernel_rfl
  have h1 := Lib.hid (Lib.run_to_unsafe (P := Tryd.prog) w ⟨f, 0, none⟩ Tryd.underlying97 Tryd.underlying140 hj (by rw [hjs]; decide) hsh (by show (0 : Nat) < 3; omega))
  have h2 := Lib.hid (Lib.run_from_unsafe (P := Tryd.prog) w ⟨f, 0, none⟩ Tryd.underlying140 Tryd.underlying97 hj hsh lies)
  clear lies hsh hb h0 hjs hj hc
  go_enter Tryd.func91, Tryd.ntmps91
  go_wp2
  rw [h1.out]
  simp only [Result.andThen]
  rw [Oper.upon_value]
  go_wp2
  rw [run_callFunc_extern Tryd.func101 (by kernel_rfl) (by kernel_rfl) (by kernel_rfl) (e := Extern.AbiNoEscape.same) (by kernel_rfl)]
  rw [Lib.run_noEscape]
  simp only [Result.andThen]
  rw [Oper.upon_value]
  go_wp2
  rw [h2.out]
  simp only [Result.andThen]
  rw [Oper.upon_value]
  go_wp2
  go_end0
  exact ⟨rfl, rfl⟩
theorem set0 {w : World} {f : Nat} {p v x q : Value} {T : TypeId} (hb : w.heap[f]? = some (.cells #[p, v, x] T (0, 0))) : (w.setCell ⟨f, 0, none⟩ q).heap[f]? = some (.cells #[q, v, x] T (0, 0)) := by
  simp [World.setCell, Array.getElem?_modify, hb]
theorem set1 {w : World} {f : Nat} {p v x q : Value} {T : TypeId} (hb : w.heap[f]? = some (.cells #[p, v, x] T (0, 0))) : (w.setCell ⟨f, 1, none⟩ q).heap[f]? = some (.cells #[p, q, x] T (0, 0)) := by
  simp [World.setCell, Array.getElem?_modify, hb]
theorem set2' {w : World} {f : Nat} {p v x q : Value} {T : TypeId} (hb : w.heap[f]? = some (.cells #[p, v, x] T (0, 0))) : (w.setCell ⟨f, 2, none⟩ q).heap[f]? = some (.cells #[p, v, q] T (0, 0)) := by
  simp [World.setCell, Array.getElem?_modify, hb]
/-- copyCheck: behind it the builder holds its own address. -/
theorem check_any (f : Nat) (v x : Value) (p : Value) (w : World) (hp : p = .pointer none ∨ p = .pointer (some ⟨f, 0, none⟩)) (hb : w.heap[f]? = some (.cells #[p, v, x] 102 (0, 0))) :
    Calls Tryd.prog 91 #[.pointer (some ⟨f, 0, none⟩)] w fun e w' => e = .returned (.tuple #[]) ∧ w'.heap[f]? = some (.cells #[.pointer (some ⟨f, 0, none⟩), v, x] 102 (0, 0)) ∧ w.grownBy w' (some f) := by
  rcases hp with rfl | rfl
  · refine (check_fresh f _ w rfl hb rfl).mono ?_
    rintro e w' ⟨rfl, rfl⟩
    exact ⟨rfl, set0 hb, rfl, rfl, rfl, by simp [World.setCell], fun k _ hk => Below.heap_setCell _ _ _ _ (fun e => hk (by rw [e]))⟩
  · refine (check_used f w (by rw [Lib.cell_of_heap hb]; rfl)).mono ?_
    rintro e w' ⟨rfl, rfl⟩
    exact ⟨rfl, hb, rfl, rfl, rfl, Nat.le_refl _, fun _ _ _ => rfl⟩
set_option maxHeartbeats 1000000 in
theorem len_any (f : Nat) (r : Option Nat) (l : Str) (n : Nat) (w : World) (h : FileAt w f r l n) :
    Calls Tryd.prog 56 #[.pointer (some ⟨f, 0, none⟩)] w fun e w' => e = .returned (.int .i64 (l.length : Int)) ∧ w = w' := by
  obtain ⟨p, v, hp, hb, hv⟩ := h
  obtain ⟨a, c, rfl⟩ := hv.slice
  have c1 : w.cell? ⟨f, 1, none⟩ = some (.slice a l.length c) := by rw [Lib.cell_of_heap hb]; rfl
  clear hp hb hv
  go_enter Tryd.func56, Tryd.ntmps56
  go_wp2
  go_ret
  exact ⟨rfl, rfl⟩
set_option maxHeartbeats 2000000 in
theorem write_any (f : Nat) (r : Option Nat) (l : Str) (n : Nat) (s : ByteArray) (w : World) (h : FileAt w f r l n) (hlen : l.length + s.size ≤ 140737488355328) :
    Calls Tryd.prog 65 #[.pointer (some ⟨f, 0, none⟩), .string s] w fun e w' => e = .returned (.tuple #[.int .i64 s.size, .nilIface]) ∧ Wrote f r (l ++ s.data.toList) n w w' := by
  have hrf := h.ne
  obtain ⟨p, v, hp, hb, hv⟩ := h
  have hlt : f < w.heap.size := (Array.getElem?_eq_some_iff.1 hb).1
  have HC := Lib.hid (check_any f v _ p w hp hb)
  have HR := Lib.hid hrf
  have HB := Lib.hid hb
  have HV := Lib.hid hv
  clear hrf hb hv hp
  go_enter Tryd.func65, Tryd.ntmps65
  go_wp2_with fail
  refine HC.out.mono ?_
  rintro e w1 ⟨rfl, hb1, hg1⟩
  have c1 : w1.cell? ⟨f, 1, none⟩ = some v := by rw [Lib.cell_of_heap hb1]; rfl
  have hv1 : BufAt w1 v r l := HV.out.kept fun g hg => hg1.block g (HV.out.lt g hg) (fun e => HR.out (by rw [hg, e]))
  have HB1 := Lib.hid hb1
  have HG1 := Lib.hid hg1
  clear hb1 hg1
  go_wp2_with (at_builtin; refine wpList_buf_append _ rfl _ _ rfl v r l rfl hv1 s rfl hlen ?_)
  intro v' r' w2 hv2 hg2 hr'
  have hlt1 : f < w1.heap.size := Nat.lt_of_lt_of_le hlt HG1.out.size
  have hb2 : w2.heap[f]? = some (.cells #[.pointer (some ⟨f, 0, none⟩), v, .int .i64 (n : Int)] 102 (0, 0)) := (hg2.block f hlt1 (fun e => HR.out e.symm)).trans HB1.out
  have d1 : w2.cell? ⟨f, 1, none⟩ = some v := by rw [Lib.cell_of_heap hb2]; rfl
  have f1 : w2.frozen? ⟨f, 1, none⟩ = false := Lib.frozen_of_heap hb2 1
  obtain ⟨a', n', c', rfl⟩ : ∃ a m c, v' = .slice a m c := let ⟨a, c, e⟩ := hv2.slice; ⟨a, _, c, e⟩
  have H : Hid (Wrote f r (l ++ s.data.toList) n w (w2.setCell ⟨f, 1, none⟩ (.slice a' n' c'))) := Lib.hid (by
    have hne : r' ≠ some f := by
      intro e
      obtain ⟨c, fz, hc⟩ := hv2.type f e
      rw [hb2] at hc; simp at hc
    refine ⟨⟨r', ⟨_, _, .inr rfl, set1 hb2, hv2.kept fun g hg => Below.heap_setCell _ _ _ _ (fun e => hne (by rw [hg]; exact congrArg some e))⟩, ?_⟩, ?_⟩
    · rcases hr' with e | ⟨g, e, hg⟩
      · exact .inl e
      · exact .inr (.inr ⟨g, e, Nat.le_trans HG1.out.size hg⟩)
    · exact (((Upon.refl _ w).grown HG1.out (fun k hk => .inl (.inl (Option.some.inj hk).symm))).grown hg2 (fun k hk => .inl (.inr hk.symm))).setCell (.inl (.inl rfl)) _)
  clear hv2 hg2 hr' hb2 hv1
  go_wp2
  go_ret2
  exact ⟨rfl, H.out⟩
set_option maxHeartbeats 1000000 in
theorem reset_any (f : Nat) (r : Option Nat) (l : Str) (n : Nat) (w : World) (h : FileAt w f r l n) :
    Calls Tryd.prog 86 #[.pointer (some ⟨f, 0, none⟩)] w fun e w' => e = .returned (.tuple #[]) ∧ FileAt w' f none [] n ∧ Upon (fun k => k = f) w w' := by
  obtain ⟨p, v, hp, hb, hv⟩ := h
  have c0 : w.cell? ⟨f, 0, none⟩ = some p := by rw [Lib.cell_of_heap hb]; rfl
  have c1 : w.cell? ⟨f, 1, none⟩ = some v := by rw [Lib.cell_of_heap hb]; rfl
  have f0 : w.frozen? ⟨f, 0, none⟩ = false := Lib.frozen_of_heap hb 0
  have f1 : w.frozen? ⟨f, 1, none⟩ = false := Lib.frozen_of_heap hb 1
  obtain ⟨a, c, rfl⟩ := hv.slice
  have H : Hid (FileAt ((w.setCell ⟨f, 0, none⟩ (.pointer none)).setCell ⟨f, 1, none⟩ (.slice none 0 0)) f none [] n) := Lib.hid ⟨_, _, .inl rfl, set1 (set0 hb), BufAt.nil _⟩
  clear hb hv
  rcases hp with rfl | rfl
  all_goals
    go_enter Tryd.func86, Tryd.ntmps86
    go_wp2
    go_end0
    exact ⟨rfl, H.out, ((Upon.refl (fun k => k = f) w).setCell (p := ⟨f, 0, none⟩) (.inl rfl) _).setCell (p := ⟨f, 1, none⟩) (.inl rfl) _⟩
theorem freeze_other (w : World) (g n k : Nat) (h : k ≠ g) : (w.freeze ⟨g, 0, none⟩ n).heap[k]? = w.heap[k]? := by
  unfold World.freeze
  split
  · rfl
  · simp only [Array.getElem?_modify]; rw [if_neg (fun e => h e.symm)]
theorem BufAt.froze {w : World} {g c : Nat} {l : Str} (h : BufAt w (.slice (some ⟨g, 0, none⟩) l.length c) (some g) l) : BufAt (w.freeze ⟨g, 0, none⟩ l.length) (.slice (some ⟨g, 0, none⟩) l.length c) (some g) l := by
  obtain ⟨_, h1, h2⟩ := h
  refine ⟨rfl, h1, ?_⟩
  rcases h2 with ⟨hv, _⟩ | ⟨g', cap, cur, fz, hv, hb, hg, hfz, r⟩
  · cases hv
  · cases hv
    by_cases h0 : l.length = 0
    · refine .inr ⟨g, c, cur, fz, rfl, hb, ?_, hfz, r⟩
      unfold World.freeze; rw [if_pos h0]; exact hg
    · obtain ⟨lo, hi⟩ := fz
      refine .inr ⟨g, c, cur, (if lo == hi then (0, 0 + l.length) else (min lo 0, max hi (0 + l.length))), rfl, hb, ?_, ?_, r⟩
      · unfold World.freeze; rw [if_neg h0]; simp only [Array.getElem?_modify, hg, Option.map_some, if_true]
      · split
        · simp
        · simp only at hfz ⊢; omega
theorem unsafeNone (w : World) : (Builtin.unsafeString_ #[135, 3] 9 #[.pointer none, .int .i64 0]).run Tryd.prog w = .ok (.string ⟨#[]⟩) w := by kernel_rfl
theorem unsafeZero (w : World) (g : Nat) : (Builtin.unsafeString_ #[135, 3] 9 #[.pointer (some ⟨g, 0, none⟩), .int .i64 0]).run Tryd.prog w = .ok (.string ⟨#[]⟩) w := by kernel_rfl
set_option maxHeartbeats 2000000 in
set_option maxRecDepth 100000 in
theorem string_any (f : Nat) (r : Option Nat) (l : Str) (n : Nat) (w : World) (h : FileAt w f r l n) :
    Calls Tryd.prog 71 #[.pointer (some ⟨f, 0, none⟩)] w fun e w' => e = .returned (.string ⟨l.toArray⟩) ∧ FileAt w' f r l n ∧ Upon (fun k => some k = r) w w' := by
  have hlt := h.lt
  have hne := h.ne
  have h' := h
  obtain ⟨p, v, hp, hb, hv⟩ := h
  have hown := hv.2
  have hr := hv.1
  rcases hown.2 with ⟨rfl, h0⟩ | ⟨g, cap, cur, fz, rfl, hbg, hg, hfz, hnc, hcm, hcs, htake⟩
  · obtain rfl : l = [] := List.eq_nil_of_length_eq_zero h0
    have hUS := unsafeNone
    have c1 : w.drew.cell? ⟨f, 1, none⟩ = some (.slice none 0 0) := by
      have : w.drew.heap[f]? = _ := hb
      rw [Lib.cell_of_heap this]; rfl
    have hSD : (Builtin.unsafeSliceData_ #[98] 135 #[.slice none 0 0]).run Tryd.prog w.drew = .ok (.pointer none) w.drew := rfl
    have H := Lib.hid (And.intro (show FileAt w.drew f r [] n from h') (Upon.drew (Upon.refl (fun k => some k = r) w)))
    clear h' hb hv hown hr hp hne hlt
    go_enter Tryd.func71, Tryd.ntmps71
    go_wp2
    go_region
    all_goals (go_wp2; go_ret; exact ⟨rfl, H.out⟩)
  · by_cases hl : l = []
    · subst hl
      have hUS := unsafeZero
      by_cases hc0 : cap = 0
      · subst hc0
        have c1 : w.drew.cell? ⟨f, 1, none⟩ = some (.slice (some ⟨g, 0, none⟩) 0 0) := by
          have : w.drew.heap[f]? = _ := hb
          rw [Lib.cell_of_heap this]; rfl
        have hSD : (Builtin.unsafeSliceData_ #[98] 135 #[.slice (some ⟨g, 0, none⟩) 0 0]).run Tryd.prog w.drew = .ok (.pointer (some ⟨w.drew.heap.size, 0, none⟩)) (w.drew.alloc (.view ⟨g, 0, none⟩ 5)) :=
          Lib.run_unsafeSliceData_zero w.drew _ _ 5 Tryd.underlying135 ⟨g, 0, none⟩ 0 (5, cur.size) (by have hg' : w.drew.heap[g]? = some (.cells cur 5 fz) := hg; simp [World.shape?, hg'])
        have c2 : (w.drew.alloc (.view ⟨g, 0, none⟩ 5)).cell? ⟨f, 1, none⟩ = some (.slice (some ⟨g, 0, none⟩) 0 0) := by
          have : (w.drew.alloc (.view ⟨g, 0, none⟩ 5)).heap[f]? = _ := (Lib.alloc_old w.drew _ f hlt).trans hb
          rw [Lib.cell_of_heap this]; rfl
        have c3 : (w.alloc (.view ⟨g, 0, none⟩ 5)).drew.cell? ⟨f, 1, none⟩ = some (.slice (some ⟨g, 0, none⟩) 0 0) := c2
        have c0 : w.cell? ⟨f, 1, none⟩ = some (.slice (some ⟨g, 0, none⟩) 0 0) := c1
        have H := Lib.hid (And.intro (show FileAt (w.drew.alloc (.view ⟨g, 0, none⟩ 5)) f r [] n from h'.kept (Lib.alloc_old w.drew _ f hlt) (fun k hk => Lib.alloc_old w.drew _ k (h'.row k hk))) ((Upon.drew (Upon.refl (fun k => some k = r) w)).alloc (.view ⟨g, 0, none⟩ 5)))
        clear h' hb hv hown hr hp hne hlt
        go_enter Tryd.func71, Tryd.ntmps71
        go_wp2
        go_region
        all_goals (go_wp2; go_ret; exact ⟨rfl, H.out⟩)
      · have c1 : w.drew.cell? ⟨f, 1, none⟩ = some (.slice (some ⟨g, 0, none⟩) 0 cap) := by
          have : w.drew.heap[f]? = _ := hb
          rw [Lib.cell_of_heap this]; rfl
        have hSD : (Builtin.unsafeSliceData_ #[98] 135 #[.slice (some ⟨g, 0, none⟩) 0 cap]).run Tryd.prog w.drew = .ok (.pointer (some ⟨g, 0, none⟩)) w.drew :=
          Lib.run_unsafeSliceData_row _ _ _ _ _ _ hc0
        have H := Lib.hid (And.intro (show FileAt w.drew f r [] n from h') (Upon.drew (Upon.refl (fun k => some k = r) w)))
        clear h' hb hv hown hr hp hne hlt hc0
        go_enter Tryd.func71, Tryd.ntmps71
        go_wp2
        go_region
        all_goals (go_wp2; go_ret; exact ⟨rfl, H.out⟩)
    · have hl0 : l.length ≠ 0 := by simpa using hl
      obtain rfl : some g = r := hv.1
      have c1 : w.drew.cell? ⟨f, 1, none⟩ = some (.slice (some ⟨g, 0, none⟩) l.length cap) := by
        have : w.drew.heap[f]? = _ := hb
        rw [Lib.cell_of_heap this]; rfl
      have hSD : (Builtin.unsafeSliceData_ #[98] 135 #[.slice (some ⟨g, 0, none⟩) l.length cap]).run Tryd.prog w.drew = .ok (.pointer (some ⟨g, 0, none⟩)) w.drew :=
        Lib.run_unsafeSliceData_row _ _ _ _ _ _ (by omega)
      have hUS : (Builtin.unsafeString_ #[135, 3] 9 #[.pointer (some ⟨g, 0, none⟩), .int .i64 l.length]).run Tryd.prog w.drew = .ok (.string ⟨l.toArray⟩) (w.drew.freeze ⟨g, 0, none⟩ l.length) := by
        refine Lib.run_unsafeString_row w.drew 135 3 9 5 Tryd.underlying135 (by kernel_rfl) g cur.size (by have hg' : w.drew.heap[g]? = some (.cells cur 5 fz) := hg; simp [World.shape?, hg']) l hl (by omega) (by unfold maxLen at hcm; omega) ?_
        intro j x hx
        have := hown.cells (g := g) rfl j (.int .u8 x.toNat) (by simp [Lib.byteCells, hx])
        exact this
      have hvd : BufAt w.drew (.slice (some ⟨g, 0, none⟩) l.length cap) (some g) l := hv
      have H := Lib.hid (And.intro (show FileAt (w.drew.freeze ⟨g, 0, none⟩ l.length) f (some g) l n from ⟨p, _, hp, (freeze_other w.drew g l.length f (fun e => hne (by rw [e]))).trans hb, hvd.froze⟩) ((Upon.drew (Upon.refl (fun k => some k = some g) w)).freeze (p := ⟨g, 0, none⟩) rfl l.length))
      clear h' hb hv hown hr hp hne hlt hl hl0 hvd
      go_enter Tryd.func71, Tryd.ntmps71
      go_wp2
      go_region
      all_goals (go_wp2; go_ret; exact ⟨rfl, H.out⟩)
theorem take_extract (s : ByteArray) (m : Nat) : (s.extract 0 m).data.toList = s.data.toList.take m := by
  simp [ByteArray.data_extract]
set_option maxHeartbeats 2000000 in
set_option maxRecDepth 100000 in
/-- (*file).cut. -/
theorem cut_any (f : Nat) (r : Option Nat) (l : Str) (n m : Nat) (w : World) (h : FileAt w f r l n) (hm : m ≤ l.length) (hl : l.length ≤ 140737488355328) :
    Calls Tryd.prog 55 #[.pointer (some ⟨f, 0, none⟩), .int .i64 (m : Int)] w fun e w' => e = .returned (.tuple #[]) ∧ Wrote f r (l.take m) m w w' := by
  have HF := Lib.hid h
  have h2 : ∀ (w' : World) (r' : Option Nat) (l' : Str), FileAt w' f r' l' n → w'.frozen? ⟨f, 2, none⟩ = false ∧ FileAt (w'.setCell ⟨f, 2, none⟩ (.int .i64 (m : Int))) f r' l' m := by
    intro w' r' l' h'
    have hne := h'.ne
    obtain ⟨p, v, hp, hb, hv⟩ := h'
    exact ⟨Lib.frozen_of_heap hb 2, p, v, hp, set2' hb, hv.kept fun g hg => Below.heap_setCell _ _ _ _ (fun e => hne (by rw [hg]; exact congrArg some e))⟩
  have c2 : ∀ (w' : World) (r' : Option Nat) (l' : Str), FileAt w' f r' l' n → w'.cell? ⟨f, 2, none⟩ = some (.int .i64 (n : Int)) := by
    intro w' r' l' h'
    obtain ⟨p, v, hp, hb, hv⟩ := h'
    rw [Lib.cell_of_heap hb]; rfl
  have H2 := Lib.hid h2
  have HC := Lib.hid c2
  have HL := Lib.hid (len_any f r l n w h)
  clear h h2 c2
  by_cases hlt : m < l.length
  · have hdec : decide ((m : Int) < (l.length : Int)) = true := by simpa using hlt
    go_enter Tryd.func55, Tryd.ntmps55
    go_wp2_with fail
    refine HL.out.mono ?_
    rintro e w1 ⟨rfl, rfl⟩
    go_wp2_with fail
    refine (string_any f r l n w HF.out).mono ?_
    rintro e w1 ⟨rfl, hf1, hu1⟩
    have HF1 := Lib.hid hf1
    have HU1 := Lib.hid hu1
    clear hf1 hu1
    obtain ⟨s, hs⟩ : ∃ s : ByteArray, s = ⟨l.toArray⟩ := ⟨_, rfl⟩
    have hsz : s.size = l.length := by rw [hs]; rfl
    have hle : m ≤ s.size := by omega
    have HS := Lib.hid (show (s.extract 0 m).data.toList = l.take m by rw [take_extract, hs])
    have HZ := Lib.hid (show (s.extract 0 m).size ≤ l.length by simp [ByteArray.size_extract]; omega)
    rw [← hs]
    clear hs hsz
    go_wp2_with fail
    refine (reset_any f r l n w1 HF1.out).mono ?_
    rintro e w2 ⟨rfl, hf2, hu2⟩
    have HF2 := Lib.hid hf2
    have HU2 := Lib.hid hu2
    clear hf2 hu2
    go_wp2_with fail
    refine (write_any f none [] n _ w2 HF2.out (by have := HZ.out; simp; omega)).mono ?_
    rintro e w3 ⟨rfl, hw3⟩
    obtain ⟨⟨r', hf3, hr'⟩, hu3⟩ := hw3
    rw [List.nil_append, HS.out] at hf3
    obtain ⟨f3, HF4⟩ := H2.out _ _ _ hf3
    have c3 := HC.out _ _ _ hf3
    replace HF4 := Lib.hid HF4
    have HR := Lib.hid hr'
    have HU3 := Lib.hid hu3
    clear hf3 hr' hu3
    go_wp2_with fail
    go_end0
    refine ⟨rfl, ⟨r', HF4.out, ?_⟩, ?_⟩
    · rcases HR.out with e | e | ⟨g, e, hg⟩
      · exact .inr (.inl e)
      · exact .inr (.inl e)
      · exact .inr (.inr ⟨g, e, Nat.le_trans HU1.out.size (Nat.le_trans HU2.out.size hg)⟩)
    · refine (((HU1.out.mono fun i _ hi => .inr hi).trans (HU2.out.mono fun i _ hi => .inl hi)).trans (HU3.out.mono fun i _ hi => ?_)).setCell (p := ⟨f, 2, none⟩) (.inl (.inl rfl)) _
      rcases hi with e | e
      · exact .inl e
      · cases e
  · have hdec : decide ((m : Int) < (l.length : Int)) = false := by simpa using hlt
    obtain rfl : m = l.length := by omega
    obtain ⟨f3, HF4⟩ := H2.out _ _ _ HF.out
    have c3 := HC.out _ _ _ HF.out
    replace HF4 := Lib.hid HF4
    clear hdec
    go_enter Tryd.func55, Tryd.ntmps55
    go_wp2_with fail
    refine HL.out.mono ?_
    rintro e w1 ⟨rfl, rfl⟩
    go_wp2_with fail
    go_end0
    exact ⟨rfl, ⟨r, by rw [List.take_length]; exact HF4.out, .inl rfl⟩, (Upon.refl (fun k => k = f ∨ some k = r) w).setCell (p := ⟨f, 2, none⟩) (.inl (.inl rfl)) _⟩
end Dsk
end Go.Proofs.YtjpgglajcelllaaDoor
end
/- A disk in memory (layer 4) as plain data: which blocks it owns, what they hold; it stays what it is while other blocks are written; what a step of it leaves. -/
section
namespace Go.Proofs.YtjpgglajcelllaaDoor
open Go.RowKit
namespace Dsk
open Go.Maps
/-! ### the files -/
structure FilesAt (w : World) (S : Nat → Prop) (F : List FileS) (fs : List Nat) (rows : List (Option Nat)) : Prop where
  flen : fs.length = F.length
  rlen : rows.length = F.length
  file : ∀ i f, F[i]? = some f → FileAt w (blk fs i) (rows.getD i none) f.s f.lasts
  nodup : ∀ i j, i < F.length → j < F.length → blk fs i = blk fs j → i = j
  apart : ∀ i j b, rows.getD i none = some b → rows.getD j none = some b → i = j
  s_f : ∀ i, i < F.length → S (blk fs i)
  s_r : ∀ i b, rows.getD i none = some b → S b
theorem getD_none {rows : List (Option Nat)} {i b : Nat} (h : rows.getD i none = some b) : i < rows.length := by
  rcases Nat.lt_or_ge i rows.length with h1 | h1
  · exact h1
  · rw [List.getD_eq_getElem?_getD, List.getElem?_eq_none h1] at h; cases h
theorem FilesAt.kept {w w' : World} {S : Nat → Prop} {F : List FileS} {fs : List Nat} {rows : List (Option Nat)} (h : FilesAt w S F fs rows) (hk : ∀ b, S b → w'.heap[b]? = w.heap[b]?) : FilesAt w' S F fs rows :=
  { h with file := fun i f hf => (h.file i f hf).kept (hk _ (h.s_f i (by have := (List.getElem?_eq_some_iff.1 hf).1; exact this))) (fun g hg => hk g (h.s_r i g hg)) }
theorem FilesAt.mono {w : World} {S T : Nat → Prop} {F : List FileS} {fs : List Nat} {rows : List (Option Nat)} (h : FilesAt w S F fs rows) (hS : ∀ b, S b → T b) : FilesAt w T F fs rows :=
  { h with s_f := fun i hi => hS _ (h.s_f i hi), s_r := fun i b hb => hS _ (h.s_r i b hb) }
/-- The blocks of S, and all that were made between w and w'. -/
def more (S : Nat → Prop) (w w' : World) (b : Nat) : Prop := S b ∨ (w.heap.size ≤ b ∧ b < w'.heap.size)
theorem FilesAt.row_lt {w : World} {S : Nat → Prop} {F : List FileS} {fs : List Nat} {rows : List (Option Nat)} (h : FilesAt w S F fs rows) {i b : Nat} (hb : rows.getD i none = some b) : b < w.heap.size := by
  have hi := getD_none hb
  rw [h.rlen] at hi
  exact (h.file i _ (List.getElem?_eq_getElem hi)).row b hb
/-- Behind a write to file i. -/
theorem FilesAt.wrote {w w' : World} {S : Nat → Prop} {F : List FileS} {fs : List Nat} {rows : List (Option Nat)} (h : FilesAt w S F fs rows) {i : Nat} {f : FileS} (hi : F[i]? = some f) {l : Str} {n : Nat}
    (hw : Wrote (blk fs i) (rows.getD i none) l n w w') {g : FileS → FileS} (hg : g f = ⟨l, n⟩) : ∃ rows', FilesAt w' (more S w w') (F.modify i g) fs rows' := by
  have hil := (List.getElem?_eq_some_iff.1 hi).1
  obtain ⟨⟨r', hf', hr'⟩, hu⟩ := hw
  have hrl : ∀ j, (rows.set i r').getD j none = if j = i then r' else rows.getD j none := by
    intro j
    simp only [List.getD_eq_getElem?_getD, List.getElem?_set]
    by_cases e : i = j
    · subst e; simp [h.rlen, hil]
    · rw [if_neg e, if_neg (fun e' => e e'.symm)]
  have hold : ∀ j b, j ≠ i → rows.getD j none = some b → r' ≠ some b := by
    intro j b hj hb e
    rcases hr' with h1 | h1 | ⟨g', h1, h2⟩
    · rw [h1] at e; exact hj (h.apart j i b hb e)
    · rw [h1] at e; cases e
    · rw [h1] at e; cases e; have := h.row_lt hb; omega
  refine ⟨rows.set i r', ⟨by simpa using h.flen, by simpa using h.rlen, ?_, fun a b ha hb => h.nodup a b (by simpa using ha) (by simpa using hb), ?_, fun a ha => .inl (h.s_f a (by simpa using ha)), ?_⟩⟩
  · intro j fj hj
    rw [List.getElem?_modify] at hj
    rw [hrl j]
    by_cases e : j = i
    · subst e
      rw [hi] at hj
      simp at hj
      rw [if_pos rfl, ← hj, hg]
      exact hf'
    · rw [if_neg e]
      have e' : ¬ i = j := fun x => e x.symm
      obtain ⟨fj', hfj, hfe⟩ := Option.map_eq_some_iff.1 (show (F[j]?).map _ = some fj from hj)
      rw [if_neg e'] at hfe
      rw [← hfe]
      have hjl := (List.getElem?_eq_some_iff.1 hfj).1
      have hfile := h.file j fj' hfj
      refine hfile.kept (hu.block _ hfile.lt ?_) (fun b hb => hu.block _ (hfile.row b hb) ?_)
      · rintro (e1 | e1)
        · exact e (h.nodup j i hjl hil e1)
        · have hfi := h.file i f hi
          obtain ⟨p, v, _, hbk, _⟩ := hfile
          obtain ⟨_, _, _, _, hv⟩ := hfi
          obtain ⟨c, fz, hc⟩ := hv.type _ e1.symm
          rw [hbk] at hc; simp at hc
      · rintro (e1 | e1)
        · obtain ⟨_, _, _, _, hv⟩ := hfile
          obtain ⟨c, fz, hc⟩ := hv.type _ hb
          obtain ⟨p, v, _, hbk, _⟩ := h.file i f hi
          rw [← e1, hc] at hbk; simp at hbk
        · exact e (h.apart j i b hb e1.symm)
  · intro a b x ha hb
    rw [hrl a] at ha
    rw [hrl b] at hb
    by_cases ea : a = i
    · by_cases eb : b = i
      · rw [ea, eb]
      · rw [if_pos ea] at ha; rw [if_neg eb] at hb
        exact absurd ha (hold b x eb hb)
    · rw [if_neg ea] at ha
      by_cases eb : b = i
      · rw [if_pos eb] at hb; exact absurd hb (hold a x ea ha)
      · rw [if_neg eb] at hb; exact h.apart a b x ha hb
  · intro a b ha
    rw [hrl a] at ha
    by_cases ea : a = i
    · rw [if_pos ea] at ha
      rcases hr' with h1 | h1 | ⟨g', h1, h2⟩
      · rw [h1] at ha; exact .inl (h.s_r i b ha)
      · rw [h1] at ha; cases ha
      · have hb := hf'.row b ha
        rw [h1] at ha; cases ha
        exact .inr ⟨h2, hb⟩
    · rw [if_neg ea] at ha; exact .inl (h.s_r a b ha)
theorem getD_snoc_lt {α : Type} {l : List α} {x d : α} {i : Nat} (h : i < l.length) : (l ++ [x]).getD i d = l.getD i d := by
  simp [List.getD_eq_getElem?_getD, List.getElem?_append_left h]
theorem getD_snoc_eq {α : Type} {l : List α} {x d : α} : (l ++ [x]).getD l.length d = x := by
  simp [List.getD_eq_getElem?_getD]
theorem blk_snoc_lt {l : List Nat} {x i : Nat} (h : i < l.length) : blk (l ++ [x]) i = blk l i := getD_snoc_lt h
theorem blk_snoc_eq {l : List Nat} {x : Nat} : blk (l ++ [x]) l.length = x := getD_snoc_eq
/-- A new file in a new block. -/
theorem FilesAt.snoc {w w' : World} {S : Nat → Prop} {F : List FileS} {fs : List Nat} {rows : List (Option Nat)} (h : FilesAt w S F fs rows) {b : Nat} (hb : FileAt w' b none [] 0) (hn : w.heap.size ≤ b)
    (hk : ∀ c, S c → w'.heap[c]? = w.heap[c]?) : FilesAt w' (more S w w') (F ++ [⟨[], 0⟩]) (fs ++ [b]) (rows ++ [none]) := by
  have h0 := h.kept hk
  have hne : ∀ i, i < F.length → blk fs i ≠ b := by
    intro i hi e
    have := (h.file i _ (List.getElem?_eq_getElem hi)).lt
    omega
  have hrow : ∀ i c, (rows ++ [none]).getD i none = some c → rows.getD i none = some c := by
    intro i c hc
    rcases Nat.lt_or_ge i rows.length with h1 | h1
    · rwa [getD_snoc_lt h1] at hc
    · rw [List.getD_eq_getElem?_getD, List.getElem?_append_right h1] at hc
      cases e : i - rows.length with
      | zero => rw [e] at hc; simp at hc
      | succ m => rw [e] at hc; simp at hc
  refine ⟨by simp [h.flen], by simp [h.rlen], ?_, ?_, fun i j c hi hj => h.apart i j c (hrow i c hi) (hrow j c hj), ?_, fun i c hc => .inl (h.s_r i c (hrow i c hc))⟩
  · intro i f hf
    rcases Nat.lt_or_ge i F.length with h1 | h1
    · rw [List.getElem?_append_left h1] at hf
      rw [blk_snoc_lt (by rw [h.flen]; exact h1), getD_snoc_lt (by rw [h.rlen]; exact h1)]
      exact h0.file i f hf
    · have hi := (List.getElem?_eq_some_iff.1 hf).1
      simp at hi
      obtain rfl : i = F.length := by omega
      rw [List.getElem?_concat_length] at hf
      cases hf
      rw [← h.flen, blk_snoc_eq, h.flen, ← h.rlen, getD_snoc_eq]
      exact hb
  · intro i j hi hj e
    simp at hi hj
    rcases Nat.lt_or_ge i F.length with h1 | h1
    · rw [blk_snoc_lt (by rw [h.flen]; exact h1)] at e
      rcases Nat.lt_or_ge j F.length with h2 | h2
      · rw [blk_snoc_lt (by rw [h.flen]; exact h2)] at e
        exact h.nodup i j h1 h2 e
      · obtain rfl : j = F.length := by omega
        rw [← h.flen, blk_snoc_eq] at e
        exact absurd e (hne i h1)
    · obtain rfl : i = F.length := by omega
      rcases Nat.lt_or_ge j F.length with h2 | h2
      · have e3 : blk (fs ++ [b]) F.length = b := by rw [← h.flen, blk_snoc_eq]
        rw [blk_snoc_lt (i := j) (by rw [h.flen]; exact h2), e3] at e
        exact absurd e.symm (hne j h2)
      · omega
  · intro i hi
    simp at hi
    rcases Nat.lt_or_ge i F.length with h1 | h1
    · rw [blk_snoc_lt (by rw [h.flen]; exact h1)]; exact .inl (h.s_f i h1)
    · obtain rfl : i = F.length := by omega
      rw [← h.flen, blk_snoc_eq]
      exact .inr ⟨hn, hb.lt⟩
/-! ### changes of names -/
/-- A box that holds one value. -/
def Box (w : World) (S : Nat → Prop) (b : Nat) (v : Value) (T : TypeId) : Prop := S b ∧ w.heap[b]? = some (.cells #[v] T (0, 0))
/-- A function value that does the change c. -/
def ChAt (w : World) (S : Nat → Prop) (fs : List Nat) : Chg → Value → Prop
  | .put k i, v => ∃ bf bk s, v = .func (.func 64) #[] #[.pointer (some ⟨bf, 0, none⟩), .pointer (some ⟨bk, 0, none⟩)] ∧ Box w S bf (.pointer (some ⟨blk fs i, 0, none⟩)) 96 ∧ Box w S bk (.string s) 9 ∧ s.data.toList = k
  | .move a b _, v => ∃ ba bb s t, v = .func (.func 83) #[] #[.pointer (some ⟨ba, 0, none⟩), .pointer (some ⟨bb, 0, none⟩)] ∧ Box w S ba (.string s) 9 ∧ Box w S bb (.string t) 9 ∧ s.data.toList = a ∧ t.data.toList = b
  | .del a, v => ∃ ba s, v = .func (.func 97) #[] #[.pointer (some ⟨ba, 0, none⟩)] ∧ Box w S ba (.string s) 9 ∧ s.data.toList = a
theorem Box.kept {w w' : World} {S : Nat → Prop} {b : Nat} {v : Value} {T : TypeId} (h : Box w S b v T) (hk : ∀ b, S b → w'.heap[b]? = w.heap[b]?) : Box w' S b v T := ⟨h.1, (hk b h.1).trans h.2⟩
theorem Box.mono {w : World} {S T : Nat → Prop} {b : Nat} {v : Value} {t : TypeId} (h : Box w S b v t) (hk : ∀ b, S b → T b) : Box w T b v t := ⟨hk b h.1, h.2⟩
/-- .. only boxes of pointers and texts matter. -/
theorem ChAt.keptB {w w' : World} {S : Nat → Prop} {fs : List Nat} {c : Chg} {v : Value} (h : ChAt w S fs c v) (hk : ∀ b x T, (T = 96 ∨ T = 9) → Box w S b x T → w'.heap[b]? = w.heap[b]?) : ChAt w' S fs c v := by
  cases c with
  | put k i => obtain ⟨bf, bk, s, e, h1, h2, h3⟩ := h; exact ⟨bf, bk, s, e, ⟨h1.1, (hk _ _ _ (.inl rfl) h1).trans h1.2⟩, ⟨h2.1, (hk _ _ _ (.inr rfl) h2).trans h2.2⟩, h3⟩
  | move a b i => obtain ⟨ba, bb, s, t, e, h1, h2, h3⟩ := h; exact ⟨ba, bb, s, t, e, ⟨h1.1, (hk _ _ _ (.inr rfl) h1).trans h1.2⟩, ⟨h2.1, (hk _ _ _ (.inr rfl) h2).trans h2.2⟩, h3⟩
  | del a => obtain ⟨ba, s, e, h1, h2⟩ := h; exact ⟨ba, s, e, ⟨h1.1, (hk _ _ _ (.inr rfl) h1).trans h1.2⟩, h2⟩
theorem ChAt.mono {w : World} {S T : Nat → Prop} {fs : List Nat} {c : Chg} {v : Value} (h : ChAt w S fs c v) (hk : ∀ b, S b → T b) : ChAt w T fs c v := by
  cases c with
  | put k i => obtain ⟨bf, bk, s, e, h1, h2, h3⟩ := h; exact ⟨bf, bk, s, e, h1.mono hk, h2.mono hk, h3⟩
  | move a b i => obtain ⟨ba, bb, s, t, e, h1, h2, h3⟩ := h; exact ⟨ba, bb, s, t, e, h1.mono hk, h2.mono hk, h3⟩
  | del a => obtain ⟨ba, s, e, h1, h2⟩ := h; exact ⟨ba, s, e, h1.mono hk, h2⟩
theorem ChAt.more {w : World} {S : Nat → Prop} {fs : List Nat} {c : Chg} {v : Value} (h : ChAt w S fs c v) (hc : chOk fs.length c) (b : Nat) : ChAt w S (fs ++ [b]) c v := by
  cases c with
  | put k i => obtain ⟨bf, bk, s, e, h1, h2, h3⟩ := h; exact ⟨bf, bk, s, e, by rw [blk_snoc_lt hc.2]; exact h1, h2, h3⟩
  | move a b i => exact h
  | del a => exact h
structure ChsAt (w : World) (S : Nat → Prop) (fs : List Nat) (C : List Chg) (cv : Value) (cvs : List Value) : Prop where
  row : w.ownsRow 0 110 1 cv C.length cvs
  ch : ∀ (j : Nat) (c : Chg), C[j]? = some c → ∃ v, cvs[j]? = some v ∧ ChAt w S fs c v
  s_c : ∀ b, cv.ownBlock = some b → S b
theorem ChsAt.kept {w w' : World} {S : Nat → Prop} {fs : List Nat} {C : List Chg} {cv : Value} {cvs : List Value} (h : ChsAt w S fs C cv cvs) (hk : ∀ b, S b → w'.heap[b]? = w.heap[b]?) : ChsAt w' S fs C cv cvs :=
  ⟨ownsRow_kept h.row fun b hb => hk b (h.s_c b hb), fun j c hc => let ⟨v, h1, h2⟩ := h.ch j c hc; ⟨v, h1, h2.keptB fun b _ _ _ hb => hk b hb.1⟩, h.s_c⟩
/-- .. boxes and the row of the changes are kept. -/
theorem ChsAt.keptB {w w' : World} {S : Nat → Prop} {fs : List Nat} {C : List Chg} {cv : Value} {cvs : List Value} (h : ChsAt w S fs C cv cvs)
    (hk : ∀ b c T, S b → w.heap[b]? = some (.cells c T (0, 0)) → (T = 96 ∨ T = 9 ∨ T = 110) → w'.heap[b]? = w.heap[b]?) : ChsAt w' S fs C cv cvs := by
  refine ⟨ownsRow_kept h.row fun b hb => ?_, fun j c hc => let ⟨v, h1, h2⟩ := h.ch j c hc; ⟨v, h1, h2.keptB fun b x T hT hb => hk b _ T hb.1 hb.2 (hT.elim .inl fun e => .inr (.inl e))⟩, h.s_c⟩
  rcases h.row.2 with ⟨hn, _⟩ | ⟨g, cap, cur, hv, _, hg, _⟩
  · rw [hn] at hb; cases hb
  · rw [hv] at hb; cases hb
    exact hk g _ _ (h.s_c g (by rw [hv]; rfl)) hg (.inr (.inr rfl))
theorem ChsAt.mono {w : World} {S T : Nat → Prop} {fs : List Nat} {C : List Chg} {cv : Value} {cvs : List Value} (h : ChsAt w S fs C cv cvs) (hS : ∀ b, S b → T b) : ChsAt w T fs C cv cvs :=
  ⟨h.row, fun j c hc => let ⟨v, h1, h2⟩ := h.ch j c hc; ⟨v, h1, h2.mono hS⟩, fun b hb => hS b (h.s_c b hb)⟩
theorem ChsAt.more {w : World} {S : Nat → Prop} {fs : List Nat} {C : List Chg} {cv : Value} {cvs : List Value} (h : ChsAt w S fs C cv cvs) (hc : ∀ c ∈ C, chOk fs.length c) (b : Nat) : ChsAt w S (fs ++ [b]) C cv cvs :=
  ⟨h.row, fun j c hj => let ⟨v, h1, h2⟩ := h.ch j c hj; ⟨v, h1, h2.more (hc c (List.mem_of_getElem? hj)) b⟩, h.s_c⟩
theorem ChsAt.none (w : World) (S : Nat → Prop) (fs : List Nat) : ChsAt w S fs [] (.slice none 0 0) [] :=
  ⟨World.ownsRow_nil _ _ _ _, fun j c h => by simp at h, fun b hb => by cases hb⟩
/-! ### the disk -/
structure Ghost where
  bn : Nat
  bl : Nat
  fv : Int
  cv : Value
  fs : List Nat
  rows : List (Option Nat)
  cvs : List Value
def cellsOf (st : St) (g : Ghost) : Array Value := #[.int .i64 st.room, .bool (!st.dead), .int .i64 g.fv, .map (some g.bn), .map (some g.bl), g.cv]
/-- What lies in memory, whatever the state. -/
structure DiskM (w : World) (S : Nat → Prop) (p : Nat) (st : St) (g : Ghost) : Prop where
  cell : w.heap[p]? = some (.cells (cellsOf st g) 88 (0, 0))
  fuse : max (-1) g.fv = st.left
  wf : -9223372036854775808 ≤ g.fv ∧ g.fv ≤ 9223372036854775807
  wr : -9223372036854775808 ≤ st.room ∧ st.room ≤ 9223372036854775807
  now : MapAt w g.bn g.fs st.N
  last : MapAt w g.bl g.fs st.L
  two : g.bn ≠ g.bl
  files : FilesAt w S st.F g.fs g.rows
  chs : ChsAt w S g.fs st.C g.cv g.cvs
  s_p : S p
  s_n : S g.bn
  s_l : S g.bl
  lt : ∀ b, S b → b < w.heap.size
structure DiskG (w : World) (S : Nat → Prop) (p : Nat) (st : St) (g : Ghost) : Prop extends DiskM w S p st g where
  fine : Fine st
def IsDisk (w : World) (S : Nat → Prop) (p : Nat) (st : St) : Prop := ∃ g, DiskG w S p st g
theorem DiskM.kept {w w' : World} {S : Nat → Prop} {p : Nat} {st : St} {g : Ghost} (h : DiskM w S p st g) (hk : ∀ b, S b → w'.heap[b]? = w.heap[b]?) (hs : w.heap.size ≤ w'.heap.size) : DiskM w' S p st g :=
  { h with cell := (hk p h.s_p).trans h.cell, now := h.now.kept (hk _ h.s_n), last := h.last.kept (hk _ h.s_l), files := h.files.kept hk, chs := h.chs.kept hk, lt := fun b hb => Nat.lt_of_lt_of_le (h.lt b hb) hs }
theorem DiskG.kept {w w' : World} {S : Nat → Prop} {p : Nat} {st : St} {g : Ghost} (h : DiskG w S p st g) (hk : ∀ b, S b → w'.heap[b]? = w.heap[b]?) (hs : w.heap.size ≤ w'.heap.size) : DiskG w' S p st g :=
  { h.toDiskM.kept hk hs with fine := h.fine }
theorem IsDisk.kept {w w' : World} {S : Nat → Prop} {p : Nat} {st : St} (h : IsDisk w S p st) (hk : ∀ b, S b → w'.heap[b]? = w.heap[b]?) (hs : w.heap.size ≤ w'.heap.size) : IsDisk w' S p st := let ⟨g, hg⟩ := h; ⟨g, hg.kept hk hs⟩
theorem IsDisk.fine {w : World} {S : Nat → Prop} {p : Nat} {st : St} (h : IsDisk w S p st) : Fine st := let ⟨_, hg⟩ := h; hg.fine
theorem IsDisk.lt {w : World} {S : Nat → Prop} {p : Nat} {st : St} (h : IsDisk w S p st) : ∀ b, S b → b < w.heap.size := let ⟨_, hg⟩ := h; hg.lt
/-- Other blocks are written. -/
theorem IsDisk.upon {w w' : World} {S T : Nat → Prop} {p : Nat} {st : St} (h : IsDisk w S p st) (hu : Upon T w w') (ha : ∀ b, S b → ¬ T b) : IsDisk w' S p st :=
  h.kept (fun b hb => hu.block b (h.lt b hb) (ha b hb)) hu.size
/-- What a step of the disk leaves: it is now st; it has taken new blocks at most; nothing else has turned. -/
structure Step (S : Nat → Prop) (p : Nat) (st : St) (w w' : World) : Prop where
  disk : ∃ S', IsDisk w' S' p st ∧ (∀ b, S b → S' b) ∧ ∀ b, S' b → S b ∨ w.heap.size ≤ b
  upon : Upon S w w'
theorem Step.same {w : World} {S : Nat → Prop} {p : Nat} {st : St} (h : IsDisk w S p st) : Step S p st w w := ⟨⟨S, h, fun _ h => h, fun _ h => .inl h⟩, Upon.refl _ _⟩
/-- Two steps. -/
theorem Step.trans {a b c : World} {S : Nat → Prop} {p : Nat} {st1 st2 : St} (h : Step S p st1 a b) (k : ∀ S', IsDisk b S' p st1 → Step S' p st2 b c) : Step S p st2 a c := by
  obtain ⟨⟨S', h1, h2, h3⟩, hu⟩ := h
  obtain ⟨⟨S'', k1, k2, k3⟩, ku⟩ := k S' h1
  refine ⟨⟨S'', k1, fun x hx => k2 x (h2 x hx), fun x hx => ?_⟩, ?_⟩
  · rcases k3 x hx with h | h
    · exact h3 x h
    · exact .inr (Nat.le_trans hu.size h)
  · refine hu.trans' ku fun i hi hs => ?_
    rcases h3 i hs with h | h
    · exact h
    · omega
/-- Something else is done behind a step. -/
theorem Step.then {a b c : World} {S : Nat → Prop} {p : Nat} {st : St} (h : Step S p st a b) (k : Upon (fun _ => False) b c) : Step S p st a c := by
  obtain ⟨⟨S', h1, h2, h3⟩, hu⟩ := h
  exact ⟨⟨S', h1.upon k fun _ _ h => h, h2, h3⟩, hu.trans' k fun _ _ => False.elim⟩
/-- .. or ahead of it: blocks that are new. -/
theorem Step.first {a b c : World} {S : Nat → Prop} {p : Nat} {st : St} (k : Upon (fun _ => False) a b) (h : Step S p st b c) : Step S p st a c := by
  obtain ⟨⟨S', h1, h2, h3⟩, hu⟩ := h
  exact ⟨⟨S', h1, h2, fun b hb => (h3 b hb).elim .inl fun h => .inr (Nat.le_trans k.size h)⟩, (k.mono fun _ _ => False.elim).trans' hu fun _ _ h => h⟩
/-- A step that leaves the files where they are, and all boxes of pointers and texts as they are. -/
structure StepF (S : Nat → Prop) (p : Nat) (st : St) (fs : List Nat) (w w' : World) : Prop where
  disk : ∃ S' g, DiskG w' S' p st g ∧ g.fs = fs ∧ (∀ b, S b → S' b) ∧ ∀ b, S' b → S b ∨ w.heap.size ≤ b
  upon : Upon S w w'
  boxes : ∀ (b : Nat) c T z, w.heap[b]? = some (Obj.cells c T z) → (T = 96 ∨ T = 9) → w'.heap[b]? = w.heap[b]?
theorem StepF.step {S : Nat → Prop} {p : Nat} {st : St} {fs : List Nat} {w w' : World} (h : StepF S p st fs w w') : Step S p st w w' := by
  obtain ⟨S', g, h1, _, h2, h3⟩ := h.disk
  have hu := h.upon
  exact ⟨⟨S', ⟨g, h1⟩, h2, h3⟩, hu⟩
theorem more_of {S : Nat → Prop} {w w' : World} : ∀ b, more S w w' b → S b ∨ w.heap.size ≤ b := fun _ h => h.elim .inl fun h => .inr h.1
end Dsk
end Go.Proofs.YtjpgglajcelllaaDoor
end
