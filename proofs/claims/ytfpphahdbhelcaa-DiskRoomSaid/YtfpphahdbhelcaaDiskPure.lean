/- The document's disk (layer 4) as plain data: names in rising order, each for a file's number; changes of names; what each call does. Own words on what a map of names reads as. -/
import Derived.Test.YtfpphahdbhelcaaRows
import Derived.Maps.OwnSet
import Derived.Maps.Ext
import Derived.Sort.KeysCollected
namespace Go.Proofs.Ytfpphahdbhelcaa
namespace Dsk
open Go.Maps

abbrev Str := List UInt8
abbrev Nms := List (Str × Nat)

/-- A file: its bytes, of which so many last. -/
structure FileS where
  s : Str
  lasts : Nat
  deriving Inhabited

/-- A change of names. -/
inductive Chg where
  | put (to : Str) (file : Nat)
  | move (a b : Str) (file : Nat)
  | del (a : Str)

def insN (x : Str × Nat) : Nms → Nms
  | [] => [x]
  | y :: r => if bytesBefore x.1 y.1 then x :: y :: r else y :: insN x r
def delN (N : Nms) (k : Str) : Nms := N.filter fun p => !(p.1 == k)
def putN (N : Nms) (k : Str) (i : Nat) : Nms := insN (k, i) (delN N k)
def lookN (N : Nms) (k : Str) : Option Nat := (N.find? fun p => p.1 == k).map (·.2)
def appC (N : Nms) : Chg → Nms
  | .put k i => putN N k i
  | .move a b i => putN (delN N a) b i
  | .del a => delN N a

/-- File number i's block. -/
def blk (fs : List Nat) (i : Nat) : Nat := fs.getD i 0

/-- What a map of names reads as, file number i lying in block 'fs[i]'. -/
def ent (fs : List Nat) (p : Str × Nat) : Lit × DataW Unit := (.string p.1, .lit (.int .i64 ((blk fs p.2 : Nat) : Int)))
def toD (fs : List Nat) (N : Nms) : DataW Unit := .map (N.map (ent fs))

theorem same_str (a b : Str) : (Lit.string a).sameKey (.string b) = (a == b) := rfl

theorem ent_filter (fs : List Nat) (k : Str) : ∀ N : Nms, (N.map (ent fs)).filter (fun p => !p.1.sameKey (.string k)) = (delN N k).map (ent fs)
  | [] => rfl
  | p :: r => by
    have ih := ent_filter fs k r
    unfold delN at ih ⊢
    rw [List.map_cons, List.filter_cons, List.filter_cons, ih]
    show (if (!(Lit.string p.1).sameKey (.string k)) = true then _ else _) = _
    rw [same_str]
    split <;> rfl

theorem ent_insert (fs : List Nat) (x : Str × Nat) : ∀ N : Nms, DataW.insert (ent fs x) (N.map (ent fs)) = (insN x N).map (ent fs)
  | [] => rfl
  | y :: r => by
    unfold DataW.insert insN
    show (if bytesBefore x.1 y.1 = true then _ else _) = _
    split
    · simp [List.map]
    · rw [List.map_cons]; exact congrArg _ (ent_insert fs x r)

theorem toD_del (fs : List Nat) (N : Nms) (k : Str) : (toD fs N).del (.string k) = toD fs (delN N k) := by
  unfold toD DataW.del; simp only; rw [ent_filter]
theorem toD_put (fs : List Nat) (N : Nms) (k : Str) (i : Nat) : (toD fs N).put (.string k) (.lit (.int .i64 ((blk fs i : Nat) : Int))) = toD fs (putN N k i) := by
  unfold toD DataW.put putN; simp only; rw [ent_filter]; exact congrArg _ (ent_insert fs (k, i) _)
theorem toD_size (fs : List Nat) (N : Nms) : Maps.size (toD fs N) = N.length := by simp [toD, Maps.size]
theorem toD_at (fs : List Nat) (N : Nms) (k : Str) (z : DataW Unit) : (toD fs N).atKey (.string k) z = match lookN N k with | some i => .lit (.int .i64 ((blk fs i : Nat) : Int)) | none => z := by
  unfold toD DataW.atKey lookN
  simp only
  induction N with
  | nil => rfl
  | cons p r ih =>
    rw [List.map_cons, List.find?_cons, List.find?_cons]
    have e : ((ent fs p).1.sameKey (.string k)) = (p.1 == k) := rfl
    rw [e]
    cases h : (p.1 == k) with
    | true => rfl
    | false => exact ih
theorem toD_has (fs : List Nat) (N : Nms) (k : Str) : Maps.has (toD fs N) (.string k) = (lookN N k).isSome := by
  unfold toD Maps.has lookN
  simp only
  induction N with
  | nil => rfl
  | cons p r ih =>
    rw [List.map_cons, List.any_cons, List.find?_cons]
    have e : ((ent fs p).1.sameKey (.string k)) = (p.1 == k) := rfl
    rw [e]
    cases h : (p.1 == k) with
    | true => rfl
    | false => exact ih
theorem toD_keys (fs : List Nat) (N : Nms) : strKeys (toD fs N) = N.map (·.1) := by
  unfold toD strKeys
  simp only [List.map_map]
  rfl
theorem toD_more {fs : List Nat} {N : Nms} (h : ∀ p ∈ N, p.2 < fs.length) (e : List Nat) : toD (fs ++ e) N = toD fs N := by
  unfold toD
  congr 1
  apply List.map_congr_left
  intro p hp
  unfold ent
  have := h p hp
  simp [blk, List.getD_eq_getElem?_getD, List.getElem?_append_left this]

/-! ### names in rising order -/
def Rising (N : Nms) : Prop := N.Pairwise fun p q => bytesBefore p.1 q.1 = true

theorem mem_insN {x q : Str × Nat} : ∀ {N : Nms}, q ∈ insN x N ↔ q = x ∨ q ∈ N
  | [] => by simp [insN]
  | y :: r => by
    unfold insN
    split
    · simp
    · rw [List.mem_cons, mem_insN, List.mem_cons]
      constructor
      · rintro (h | h | h) <;> simp [h]
      · rintro (h | h | h) <;> simp [h]
theorem mem_delN {q : Str × Nat} {N : Nms} {k : Str} : q ∈ delN N k ↔ q ∈ N ∧ q.1 ≠ k := by
  unfold delN; simp
theorem mem_putN {q : Str × Nat} {N : Nms} {k : Str} {i : Nat} : q ∈ putN N k i ↔ q = (k, i) ∨ (q ∈ N ∧ q.1 ≠ k) := by
  unfold putN; rw [mem_insN, mem_delN]

theorem Rising.del {N : Nms} (h : Rising N) (k : Str) : Rising (delN N k) := List.Pairwise.sublist List.filter_sublist h
theorem rising_ins {x : Str × Nat} : ∀ {N : Nms}, Rising N → (∀ p ∈ N, p.1 ≠ x.1) → Rising (insN x N)
  | [], _, _ => by simp [insN, Rising]
  | y :: r, h, hx => by
    unfold insN
    have hy : ∀ q ∈ r, bytesBefore y.1 q.1 = true := fun q hq => List.rel_of_pairwise_cons h hq
    have ht : Rising r := List.Pairwise.of_cons h
    by_cases hb : bytesBefore x.1 y.1 = true
    · rw [if_pos hb]
      refine List.Pairwise.cons ?_ h
      intro q hq
      rcases List.mem_cons.1 hq with rfl | hq
      · exact hb
      · exact WideShapes.bytes_trans _ _ _ hb (hy q hq)
    · rw [if_neg hb]
      refine List.Pairwise.cons ?_ (rising_ins ht fun p hp => hx p (List.mem_cons_of_mem _ hp))
      intro q hq
      rcases mem_insN.1 hq with rfl | hq
      · rcases WideAt.bytes_total _ _ (hx y List.mem_cons_self) with h1 | h1
        · exact h1
        · exact absurd h1 hb
      · exact hy q hq
theorem Rising.put {N : Nms} (h : Rising N) (k : Str) (i : Nat) : Rising (putN N k i) :=
  rising_ins (h.del k) fun _ hp => (mem_delN.1 hp).2
theorem Rising.app {N : Nms} (h : Rising N) (c : Chg) : Rising (appC N c) := by
  cases c with
  | put k i => exact h.put k i
  | move a b i => exact (h.del a).put b i
  | del a => exact h.del a
theorem Rising.apps {N : Nms} (h : Rising N) : ∀ (C : List Chg), Rising (C.foldl appC N)
  | [] => h
  | c :: r => Rising.apps (h.app c) r

theorem before_ne {a b : Str} (h : bytesBefore a b = true) : a ≠ b := by
  rintro rfl; rw [WideAt.bytes_irrefl] at h; cases h
theorem look_of_mem {N : Nms} (h : Rising N) {k : Str} {i : Nat} (hm : (k, i) ∈ N) : lookN N k = some i := by
  induction N with
  | nil => cases hm
  | cons p r ih =>
    unfold lookN
    rw [List.find?_cons]
    rcases List.mem_cons.1 hm with rfl | hm
    · simp
    · have hb := before_ne (List.rel_of_pairwise_cons h hm)
      have e : (p.1 == k) = false := by simpa using hb
      rw [e]
      exact ih (List.Pairwise.of_cons h) hm
theorem mem_of_look {N : Nms} {k : Str} {i : Nat} (h : lookN N k = some i) : (k, i) ∈ N := by
  unfold lookN at h
  obtain ⟨p, hp, rfl⟩ := Option.map_eq_some_iff.1 h
  have h1 := List.mem_of_find?_eq_some hp
  have h2 := List.find?_some hp
  simp at h2
  rw [← h2]; exact h1
theorem look_none {N : Nms} {k : Str} (h : lookN N k = none) : ∀ p ∈ N, p.1 ≠ k := by
  unfold lookN at h
  have := List.find?_eq_none.1 (Option.map_eq_none_iff.1 h)
  intro p hp; simpa using this p hp
theorem look_none_of {N : Nms} {k : Str} (h : ∀ p ∈ N, p.1 ≠ k) : lookN N k = none := by
  unfold lookN
  rw [Option.map_eq_none_iff, List.find?_eq_none]
  intro p hp; simpa using h p hp

theorem look_put_same {N : Nms} (h : Rising N) (k : Str) (i : Nat) : lookN (putN N k i) k = some i := look_of_mem (h.put k i) (mem_putN.2 (.inl rfl))
theorem look_del_same {N : Nms} (k : Str) : lookN (delN N k) k = none := look_none_of fun _ hp => (mem_delN.1 hp).2
theorem look_del_other {N : Nms} (h : Rising N) {k j : Str} (hne : j ≠ k) : lookN (delN N k) j = lookN N j := by
  cases e : lookN N j with
  | none => exact look_none_of fun p hp => look_none e p (mem_delN.1 hp).1
  | some i => exact look_of_mem (h.del k) (mem_delN.2 ⟨mem_of_look e, hne⟩)
theorem look_put_other {N : Nms} (h : Rising N) {k j : Str} (i : Nat) (hne : j ≠ k) : lookN (putN N k i) j = lookN N j := by
  cases e : lookN N j with
  | none =>
    refine look_none_of fun p hp => ?_
    rcases mem_putN.1 hp with rfl | hp
    · exact fun e => hne e.symm
    · exact look_none e p hp.1
  | some m => exact look_of_mem (h.put k i) (mem_putN.2 (.inr ⟨mem_of_look e, hne⟩))

theorem len_ins (x : Str × Nat) : ∀ N : Nms, (insN x N).length = N.length + 1
  | [] => rfl
  | y :: r => by unfold insN; split <;> simp [len_ins x r]
theorem len_del_le (N : Nms) (k : Str) : (delN N k).length ≤ N.length := List.length_filter_le _ _
theorem len_del_some {N : Nms} {k : Str} {i : Nat} (h : lookN N k = some i) : (delN N k).length + 1 ≤ N.length := by
  have hm := mem_of_look h
  unfold delN
  have := List.length_filter_lt_length_iff_exists (l := N) (p := fun p => !(p.1 == k))
  have := this.2 ⟨_, hm, by simp⟩
  omega
theorem len_put_le (N : Nms) (k : Str) (i : Nat) : (putN N k i).length ≤ N.length + 1 := by
  unfold putN; rw [len_ins]; have := len_del_le N k; omega
theorem len_put_some {N : Nms} {k : Str} {j : Nat} (h : lookN N k = some j) (i : Nat) : (putN N k i).length ≤ N.length := by
  unfold putN; rw [len_ins]; exact len_del_some h
theorem del_none {N : Nms} {k : Str} (h : lookN N k = none) : delN N k = N := by
  unfold delN
  rw [List.filter_eq_self]
  intro p hp; simpa using look_none h p hp

/-! ### sorting the keys of rising names gives the keys -/
theorem before_lt : ∀ (a b : Str), bytesBefore a b = true ↔ a < b
  | [], [] => by simp [bytesBefore]
  | [], _ :: _ => by simp [bytesBefore]
  | _ :: _, [] => by simp [bytesBefore]
  | a :: r, b :: s => by
    rw [List.cons_lt_cons_iff, ← before_lt r s]
    simp [bytesBefore]
theorem sorted_names {N : Nms} (h : Rising N) {ss : List Str} (hp : ss.Perm (N.map (·.1))) : ss.mergeSort (fun x y => decide (x ≤ y)) = N.map (·.1) := by
  have hs : (ss.mergeSort (fun x y => decide (x ≤ y))).Pairwise (fun x y => decide (x ≤ y) = true) :=
    List.pairwise_mergeSort (le := fun x y => decide (x ≤ y)) (fun a b c h1 h2 => by simp only [decide_eq_true_eq] at *; exact List.le_trans h1 h2)
      (fun a b => by simp only [Bool.or_eq_true, decide_eq_true_eq]; exact List.le_total a b) ss
  have hq : (ss.mergeSort (fun x y => decide (x ≤ y))).Perm (N.map (·.1)) := (List.mergeSort_perm _ _).trans hp
  have hN : (N.map (·.1)).Pairwise (fun x y => decide (x ≤ y) = true) := by
    rw [List.pairwise_map]
    refine h.imp ?_
    intro p q hb
    simp only [decide_eq_true_eq]
    exact List.le_of_lt ((before_lt _ _).1 hb)
  refine hq.eq_of_pairwise ?_ hs hN
  intro a b _ _ h1 h2
  simp only [decide_eq_true_eq] at h1 h2
  exact List.le_antisymm h1 h2

/-! ### the disk -/
structure St where
  room : Int
  dead : Bool
  left : Int
  F : List FileS
  N : Nms
  L : Nms
  C : List Chg

def new (room : Int) : St := ⟨room, false, -1, [], [], [], []⟩

def isSign (c : UInt8) : Bool := (97 ≤ c && c ≤ 122) || (48 ≤ c && c ≤ 57) || c == 46 || c == 45
def isName (s : Str) : Bool := decide (1 ≤ s.length) && decide (s.length ≤ 32) && s.all isSign

def used (st : St) : Nat := (st.N.map fun p => (st.F.getD p.2 default).s.length).sum

/-- May a write go? It is counted. -/
def wrB (st : St) : Bool := !(st.dead || st.left == 0)
def wrS (st : St) : St := if st.dead || st.left == 0 then { st with dead := true } else if 0 < st.left then { st with left := st.left - 1 } else st

/-- Behind the write's count. -/
def addF (st : St) (name s : Str) : St :=
  match lookN st.N name with
  | some i => { st with F := st.F.modify i fun f => { f with s := f.s ++ s } }
  | none => { st with F := st.F ++ [⟨s, 0⟩], N := putN st.N name st.F.length, C := st.C ++ [.put name st.F.length] }
def full (st : St) (name s : Str) : Bool := decide (st.room < (used st + s.length : Nat)) || ((lookN st.N name).isNone && decide (st.N.length = 64))
def appE (st : St) (name s : Str) : Int := if !wrB st then 11 else if !isName name then 3 else if full (wrS st) name s then 4 else 0
def appS (st : St) (name s : Str) : St := if wrB st && isName name && !full (wrS st) name s then addF (wrS st) name s else wrS st

def syncF (st : St) (name : Str) : St :=
  match lookN st.N name with
  | some i => { st with F := st.F.modify i fun f => { f with lasts := f.s.length } }
  | none => st
def syncE (st : St) (name : Str) : Int := if !wrB st then 11 else if (lookN st.N name).isNone then 12 else 0
def syncS (st : St) (name : Str) : St := if wrB st then syncF (wrS st) name else wrS st

def chg (st : St) (c : Chg) : St := { st with N := appC st.N c, C := st.C ++ [c] }
def renE (st : St) (a b : Str) : Int := if !wrB st then 11 else if (lookN st.N a).isNone then 12 else if !isName b then 3 else 0
def renS (st : St) (a b : Str) : St := if wrB st && (lookN st.N a).isSome && isName b then chg (wrS st) (.move a b ((lookN st.N a).getD 0)) else wrS st
def remE (st : St) (a : Str) : Int := if !wrB st then 11 else if (lookN st.N a).isNone then 12 else 0
def remS (st : St) (a : Str) : St := if wrB st && (lookN st.N a).isSome then chg (wrS st) (.del a) else wrS st

def settle (st : St) (n : Nat) : St := { st with L := (st.C.take n).foldl appC st.L, C := [] }
def snE (st : St) : Int := if !wrB st then 11 else 0
def snS (st : St) : St := if wrB st then settle (wrS st) st.C.length else wrS st

def readE (st : St) (k : Str) : Int := if st.dead then 11 else if (lookN st.N k).isNone then 12 else 0
def readA (st : St) (k : Str) : Str := if st.dead then [] else match lookN st.N k with | some i => (st.F.getD i default).s | none => []
def names (st : St) : List Str := if st.dead then [] else st.N.map (·.1)
def fuse (st : St) (n : Int) : St := if st.dead then st else { st with left := max (-1) n }

def kept1 (keep : List Int) (n : Nat) : Nat :=
  match keep with
  | [] => 0
  | x :: _ => (x % 18446744073709551616).toNat % (n + 1)
def cutF (f : FileS) (m : Nat) : FileS := ⟨f.s.take m, m⟩
def cutAll : List Int → Nms → List FileS → List FileS
  | _, [], F => F
  | keep, p :: r, F => cutAll (keep.drop 1) r (F.modify p.2 fun f => cutF f (f.lasts + kept1 keep (f.s.length - f.lasts)))
def crash (st : St) (keep : List Int) : St :=
  let N := (st.C.take (kept1 keep st.C.length)).foldl appC st.L
  { room := st.room, dead := false, left := -1, F := cutAll (keep.drop 1) N st.F, N := N, L := N, C := [] }

/-! ### what holds of a disk that is used as the chapter says -/
def okC (N : Nms) : Chg → Prop
  | .put k _ => lookN N k = none ∧ N.length < 64
  | .move a _ i => lookN N a = some i
  | .del a => (lookN N a).isSome
def Good : Nms → List Chg → Prop
  | _, [] => True
  | N, c :: r => okC N c ∧ Good (appC N c) r
def nameOk (k : Str) : Prop := k.length ≤ 32
def chOk (n : Nat) : Chg → Prop
  | .put k i => nameOk k ∧ i < n
  | .move a b i => nameOk a ∧ nameOk b ∧ i < n
  | .del a => nameOk a

structure Fine (st : St) : Prop where
  rising : Rising st.L
  now : st.N = st.C.foldl appC st.L
  good : Good st.L st.C
  ins : ∀ p ∈ st.L, p.2 < st.F.length
  len : st.L.length ≤ 64
  nmL : ∀ p ∈ st.L, nameOk p.1
  chs : ∀ c ∈ st.C, chOk st.F.length c
  lasts : ∀ f ∈ st.F, f.lasts ≤ f.s.length
  left : -1 ≤ st.left

def newOf (q : Str × Nat) : Chg → Prop
  | .put k i => q = (k, i)
  | .move _ b i => q = (b, i)
  | .del _ => False
theorem mem_appC {N : Nms} {c : Chg} {q : Str × Nat} (h : q ∈ appC N c) : q ∈ N ∨ newOf q c := by
  cases c with
  | put k i =>
    rcases mem_putN.1 h with h | h
    · exact .inr h
    · exact .inl h.1
  | move a b i =>
    rcases mem_putN.1 h with h | h
    · exact .inr h
    · exact .inl (mem_delN.1 h.1).1
  | del a => exact .inl (mem_delN.1 h).1
theorem len_appC {N : Nms} {c : Chg} (h : N.length ≤ 64) (ho : okC N c) : (appC N c).length ≤ 64 := by
  cases c with
  | put k i => have := len_put_le N k i; have := ho.2; show (putN N k i).length ≤ 64; omega
  | move a b i => have h1 := len_del_some ho; have := len_put_le (delN N a) b i; show (putN (delN N a) b i).length ≤ 64; omega
  | del a => have := len_del_le N a; show (delN N a).length ≤ 64; omega

/-- What holds of names that changes lead to. -/
structure NmOk (n : Nat) (N : Nms) : Prop where
  rising : Rising N
  ins : ∀ p ∈ N, p.2 < n
  len : N.length ≤ 64
  nm : ∀ p ∈ N, nameOk p.1
theorem NmOk.app {n : Nat} {N : Nms} {c : Chg} (h : NmOk n N) (ho : okC N c) (hc : chOk n c) : NmOk n (appC N c) := by
  refine ⟨h.rising.app c, fun p hp => ?_, len_appC h.len ho, fun p hp => ?_⟩
  · rcases mem_appC hp with hp | hp
    · exact h.ins p hp
    · cases c with
      | put k i => rw [show p = (k, i) from hp]; exact hc.2
      | move a b i => rw [show p = (b, i) from hp]; exact hc.2.2
      | del a => exact hp.elim
  · rcases mem_appC hp with hp | hp
    · exact h.nm p hp
    · cases c with
      | put k i => rw [show p = (k, i) from hp]; exact hc.1
      | move a b i => rw [show p = (b, i) from hp]; exact hc.2.1
      | del a => exact hp.elim
theorem NmOk.apps {n : Nat} : ∀ {C : List Chg} {N : Nms}, NmOk n N → Good N C → (∀ c ∈ C, chOk n c) → NmOk n (C.foldl appC N)
  | [], _, h, _, _ => h
  | c :: r, N, h, hg, hc => by
    have h1 := h.app hg.1 (hc c List.mem_cons_self)
    exact NmOk.apps (C := r) (N := appC N c) h1 hg.2 fun d hd => hc d (List.mem_cons_of_mem _ hd)
theorem good_take : ∀ {C : List Chg} {N : Nms} (k : Nat), Good N C → Good N (C.take k)
  | [], _, k, _ => by simp [Good]
  | c :: r, _, 0, _ => trivial
  | c :: r, _, k + 1, h => ⟨h.1, good_take k h.2⟩
theorem good_snoc : ∀ {C : List Chg} {N : Nms} {c : Chg}, Good N C → okC (C.foldl appC N) c → Good N (C ++ [c])
  | [], _, _, _, h => ⟨h, trivial⟩
  | _ :: _, _, _, hg, h => ⟨hg.1, good_snoc hg.2 h⟩
theorem good_at : ∀ {C : List Chg} {N : Nms} {c : Chg} (k : Nat), Good N C → C[k]? = some c → okC ((C.take k).foldl appC N) c
  | [], _, _, k, _, h => by simp at h
  | _ :: _, _, _, 0, hg, h => by simp at h; subst h; exact hg.1
  | _ :: _, _, _, k + 1, hg, h => good_at k hg.2 (by simpa using h)

theorem Fine.nmL' {st : St} (h : Fine st) : NmOk st.F.length st.L := ⟨h.rising, h.ins, h.len, h.nmL⟩
theorem Fine.nmN {st : St} (h : Fine st) : NmOk st.F.length st.N := by rw [h.now]; exact h.nmL'.apps h.good h.chs
theorem Fine.nmK {st : St} (h : Fine st) (k : Nat) : NmOk st.F.length ((st.C.take k).foldl appC st.L) :=
  h.nmL'.apps (good_take k h.good) fun c hc => h.chs c (List.mem_of_mem_take hc)

theorem NmOk.mono {n m : Nat} {N : Nms} (h : NmOk n N) (hm : n ≤ m) : NmOk m N := ⟨h.rising, fun p hp => Nat.lt_of_lt_of_le (h.ins p hp) hm, h.len, h.nm⟩
theorem chOk.mono {n m : Nat} {c : Chg} (h : chOk n c) (hm : n ≤ m) : chOk m c := by
  cases c with
  | put k i => exact ⟨h.1, Nat.lt_of_lt_of_le h.2 hm⟩
  | move a b i => exact ⟨h.1, h.2.1, Nat.lt_of_lt_of_le h.2.2 hm⟩
  | del a => exact h

theorem fine_new (room : Int) : Fine (new room) := ⟨List.Pairwise.nil, rfl, trivial, by simp [new], by simp [new], by simp [new], by simp [new], by simp [new], by simp [new]⟩
theorem Fine.wr {st : St} (h : Fine st) : Fine (wrS st) := by
  unfold wrS
  split
  · exact { h with }
  · split
    · exact { h with left := by simp only; omega }
    · exact h
theorem wrS_F (st : St) : (wrS st).F = st.F := by unfold wrS; split; rfl; split <;> rfl
theorem wrS_N (st : St) : (wrS st).N = st.N := by unfold wrS; split; rfl; split <;> rfl
theorem wrS_L (st : St) : (wrS st).L = st.L := by unfold wrS; split; rfl; split <;> rfl
theorem wrS_C (st : St) : (wrS st).C = st.C := by unfold wrS; split; rfl; split <;> rfl
theorem wrS_room (st : St) : (wrS st).room = st.room := by unfold wrS; split; rfl; split <;> rfl

theorem Fine.modF {st : St} (h : Fine st) (i : Nat) (g : FileS → FileS) (hg : ∀ f, f.lasts ≤ f.s.length → (g f).lasts ≤ (g f).s.length) : Fine { st with F := st.F.modify i g } := by
  refine ⟨h.rising, h.now, h.good, fun p hp => by simpa using h.ins p hp, h.len, h.nmL, fun c hc => by simpa using h.chs c hc, ?_, h.left⟩
  intro f hf
  obtain ⟨j, hj, rfl⟩ := List.mem_iff_getElem.1 hf
  rw [List.getElem_modify]
  have hm : st.F[j]'(by simpa using hj) ∈ st.F := List.getElem_mem _
  split
  · exact hg _ (h.lasts _ hm)
  · exact h.lasts _ hm
theorem Fine.chg {st : St} (h : Fine st) {c : Chg} (ho : okC st.N c) (hc : chOk st.F.length c) : Fine (chg st c) := by
  refine ⟨h.rising, ?_, good_snoc h.good (by show okC (st.C.foldl appC st.L) c; rw [← h.now]; exact ho), h.ins, h.len, h.nmL, ?_, h.lasts, h.left⟩
  · show appC st.N c = (st.C ++ [c]).foldl appC st.L
    rw [List.foldl_append, ← h.now]; rfl
  · intro d hd
    rcases List.mem_append.1 hd with hd | hd
    · exact h.chs d hd
    · simp at hd; subst hd; exact hc
theorem Fine.settle {st : St} (h : Fine st) (n : Nat) (hn : st.C.length ≤ n) : Fine (settle st n) := by
  have hk := h.nmK n
  unfold Dsk.settle
  rw [List.take_of_length_le hn] at hk ⊢
  exact ⟨hk.rising, h.now, trivial, hk.ins, hk.len, hk.nm, by simp, h.lasts, h.left⟩
end Dsk
end Go.Proofs.Ytfpphahdbhelcaa
