/- The statements' own 'act' of layer 4: the program's disk and the document's beside one another. -/
import Derived.Test.YtiadjjdmhpabnaaRefEleven
import Derived.Test.YtiadjjdmhpabnaaObj
namespace Go.Proofs.Ytiadjjdmhpabnaa
open Go.RowKit Go.Sort
namespace Dsk
open Go.Maps
set_option linter.unusedVariables false

/-- A block of the call's own, as it is. -/
def IsBox (b : Nat) (o : Go.Obj) : Ob.Rel := fun w S => w.heap[b]? = some o ∧ ∀ x, S x ↔ x = b
theorem objBox (b : Nat) (o : Go.Obj) : Ob.Thing (IsBox b o) := ⟨fun w w' S h hk _ => ⟨(hk b ((h.2 b).2 rfl)).trans h.1, h.2⟩, fun w S h x hx => by rw [(h.2 x).1 hx]; exact (Array.getElem?_eq_some_iff.1 h.1).1⟩
theorem objD (p : Nat) (st : St) : Ob.Thing (fun w S => IsDisk w S p st) := ⟨fun _ _ _ h hk hs => h.kept hk hs, fun _ _ h => h.lt⟩
theorem objF (q : Nat) (st : St) : Ob.Thing (fun w S => IsRef w S q st) := ⟨fun _ _ _ ⟨g, h⟩ hk hs => ⟨g, h.kept hk hs⟩, fun _ _ h => h.lt⟩
theorem Step.obj {S : Nat → Prop} {p : Nat} {st : St} {w w' : World} (h : Step S p st w w') : Ob.ObjStep (fun w S => IsDisk w S p st) S w w' := ⟨h.disk, h.upon⟩
theorem RStep.obj {S : Nat → Prop} {q : Nat} {st : St} {w w' : World} (h : RStep S q st w w') : Ob.ObjStep (fun w S => IsRef w S q st) S w w' := ⟨h.disk, h.upon⟩
/-- The program's disk, the document's. -/
abbrev DD (p : Nat) (st : St) (q : Nat) (st' : St) : Ob.Rel := Ob.Tens (fun w S => IsDisk w S p st) (fun w S => IsRef w S q st')
abbrev OwnDD (w0 : World) (p : Nat) (st : St) (q : Nat) (st' : St) (w : World) : Prop := Ob.Own (DD p st q st') w0 w
/-- .. beside something else that stays. -/
abbrev DR (R : Ob.Rel) (p : Nat) (st : St) (q : Nat) (st' : St) : Ob.Rel := Ob.Tens (fun w S => IsDisk w S p st) (Ob.Tens (fun w S => IsRef w S q st') R)
abbrev OwnDR (R : Ob.Rel) (w0 : World) (p : Nat) (st : St) (q : Nat) (st' : St) (w : World) : Prop := Ob.Own (DR R p st q st') w0 w
/-- .. and a box. -/
abbrev OwnDB (R : Ob.Rel) (w0 : World) (p : Nat) (st : St) (q : Nat) (st' : St) (b : Nat) (o : Go.Obj) (w : World) : Prop := Ob.Own (Ob.Tens (DR R p st q st') (IsBox b o)) w0 w
theorem thingDD (p : Nat) (st : St) (q : Nat) (st' : St) : Ob.Thing (DD p st q st') := Ob.Tens.ob (objD p st) (objF q st')
section
variable {R : Ob.Rel} (hR : Ob.Thing R)
include hR
theorem thingDR (p : Nat) (st : St) (q : Nat) (st' : St) : Ob.Thing (DR R p st q st') := Ob.Tens.ob (objD p st) (Ob.Tens.ob (objF q st') hR)
theorem thingDB (p : Nat) (st : St) (q : Nat) (st' : St) (b : Nat) (o : Go.Obj) : Ob.Thing (Ob.Tens (DR R p st q st') (IsBox b o)) := Ob.Tens.ob (thingDR hR p st q st') (objBox b o)
omit hR in
theorem OwnDB.box {w0 w : World} {p q b : Nat} {st st' : St} {o : Go.Obj} (h : OwnDB R w0 p st q st' b o w) : w.heap[b]? = some o := by
  obtain ⟨S, h1, _⟩ := h.dropl.get
  exact h1.1
theorem OwnDB.drew {w0 w : World} {p q b : Nat} {st st' : St} {o : Go.Obj} (h : OwnDB R w0 p st q st' b o w) : OwnDB R w0 p st q st' b o w.drew := Ob.Own.upon0 (thingDB hR _ _ _ _ _ _) h (quiet_upon w 1)
theorem OwnDB.l {w0 w : World} {p q b : Nat} {st st2 st' : St} {o : Go.Obj} (h : OwnDB R w0 p st q st' b o w) {f : FuncId} {args : Array Value} {x : Ending} (hc : ∀ S, IsDisk w S p st → Calls Try.prog f args w fun e w' => e = x ∧ Step S p st2 w w') :
    Calls Try.prog f args w fun e w' => e = x ∧ OwnDB R w0 p st2 q st' b o w' := by
  obtain ⟨S, h1, h2⟩ := Ob.Own.left (objBox b o) h
  obtain ⟨A, h3, h4⟩ := Ob.Tens.left (Ob.Tens.ob (objF q st') hR) h1
  exact (hc A h3).mono fun e w' ⟨he, hs⟩ => ⟨he, h2 _ _ (h4 _ _ hs.obj)⟩
theorem OwnDB.r {w0 w : World} {p q b : Nat} {st st2 st' : St} {o : Go.Obj} (h : OwnDB R w0 p st q st' b o w) {f : FuncId} {args : Array Value} {x : Ending} (hc : ∀ S, IsRef w S q st' → Calls Try.prog f args w fun e w' => e = x ∧ RStep S q st2 w w') :
    Calls Try.prog f args w fun e w' => e = x ∧ OwnDB R w0 p st q st2 b o w' := by
  obtain ⟨S, h1, h2⟩ := Ob.Own.left (objBox b o) h
  obtain ⟨A, h3, h4⟩ := Ob.Tens.right (objD p st) h1
  obtain ⟨B, h5, h6⟩ := Ob.Tens.left hR h3
  exact (hc B h5).mono fun e w' ⟨he, hs⟩ => ⟨he, h2 _ _ (h4 _ _ (h6 _ _ hs.obj))⟩
end

/-- What an act does. -/
def actS (K : Int) (nm nt s : Str) (n : Int) (ks : List Int) (st : St) : St :=
  if K = 0 then appS st nm s else if K = 1 then syncS st nm else if K = 2 then renS st nm nt else if K = 3 then remS st nm else if K = 4 then snS st else if K = 5 then fuse st n else if K = 6 then crash st ks else st
def actE (K : Int) (nm nt s : Str) (st : St) : Int :=
  if K = 0 then appE st nm s else if K = 1 then syncE st nm else if K = 2 then renE st nm nt else if K = 3 then remE st nm else if K = 4 then snE st else 0
/-- What the document's disk must meet. -/
structure RFit (st : St) (z : Nat) : Prop where
  small : Small st z
  room : -9223372036854775808 ≤ st.room - (used st : Int)
  nF : st.F.length ≤ 1000000000
  fine : Fine st
theorem box6 {w : World} {b : Nat} {c0 c1 c2 c3 c4 c5 : Value} (h : w.heap[b]? = some (.cells #[c0, c1, c2, c3, c4, c5] 29 (0, 0))) :
    w.cell? ⟨b, 0, none⟩ = some c0 ∧ w.cell? ⟨b, 1, none⟩ = some c1 ∧ w.cell? ⟨b, 2, none⟩ = some c2 ∧ w.cell? ⟨b, 3, none⟩ = some c3 ∧ w.cell? ⟨b, 4, none⟩ = some c4 ∧ w.cell? ⟨b, 5, none⟩ = some c5 := by
  refine ⟨?_, ?_, ?_, ?_, ?_, ?_⟩ <;> (rw [Lib.cell_of_heap h]; rfl)
abbrev opObj (K : Int) (nm nt s : ByteArray) (n : Int) (kv : Value) : Go.Obj := .cells #[.int .i64 K, .string nm, .string nt, .string s, .int .i64 n, kv] 29 (0, 0)
theorem held (K : Int) (nm nt s : ByteArray) (n : Int) (kv : Value) {R : Ob.Rel} {w0 w : World} {p q b : Nat} {st st' : St} (h : OwnDB R w0 p st q st' b (opObj K nm nt s n kv) w) :
    w.cell? ⟨b, 1, none⟩ = some (.string nm) ∧ w.cell? ⟨b, 2, none⟩ = some (.string nt) ∧ w.cell? ⟨b, 3, none⟩ = some (.string s) := by
  obtain ⟨-, h1, h2, h3, -, -⟩ := box6 h.box
  exact ⟨h1, h2, h3⟩
/-- The box is made. -/
theorem OwnDR.boxed {R : Ob.Rel} (hR : Ob.Thing R) {w0 w : World} {p q : Nat} {st st' : St} (h : OwnDR R w0 p st q st' w) (o : Go.Obj) : OwnDB R w0 p st q st' w.heap.size o (w.alloc o) :=
  Ob.Own.new (thingDR hR p st q st') h (T := fun x => x = w.heap.size) ⟨cell_new w o, fun x => Iff.rfl⟩ (fun b hb => by rw [hb]; exact Nat.le_refl _) ((Upon.refl _ w).alloc o)
/-- Nothing beside them. -/
def Nil : Ob.Rel := fun _ S => ∀ b, ¬ S b
theorem objNil : Ob.Thing Nil := ⟨fun _ _ _ h _ _ => h, fun _ _ h b hb => absurd hb (h b)⟩
theorem OwnDD.to {w0 w : World} {p q : Nat} {st st' : St} (h : OwnDD w0 p st q st' w) : OwnDR Nil w0 p st q st' w :=
  Ob.Own.mono h fun S ⟨A, B, h1, h2, h3, h4⟩ => ⟨A, B, h1, ⟨B, fun _ => False, h2, fun _ h => h, fun _ _ h => h, fun b => ⟨.inl, fun h => h.elim id False.elim⟩⟩, h3, h4⟩
theorem OwnDD.back {w0 w : World} {p q : Nat} {st st' : St} (h : OwnDR Nil w0 p st q st' w) : OwnDD w0 p st q st' w :=
  Ob.Own.mono h fun S ⟨A, B, h1, ⟨C, D, c1, c2, _, c4⟩, h3, h4⟩ => ⟨A, B, h1, by
    have e : B = C := funext fun b => propext ⟨fun hb => ((c4 b).1 hb).elim id fun hd => absurd hd (c2 b), fun hc => (c4 b).2 (.inl hc)⟩
    rw [e]; exact c1, h3, h4⟩

theorem OwnDB.r2 {R : Ob.Rel} (hR : Ob.Thing R) {w0 w : World} {p q b : Nat} {st st2 st' : St} {o : Go.Obj} (h : OwnDB R w0 p st q st' b o w) {f : FuncId} {args : Array Value} {x : Ending} (hc : ∀ S, IsRef w S q st' → (∀ b, S b → w0.heap.size ≤ b) → Calls Try.prog f args w fun e w' => e = x ∧ RStep S q st2 w w') :
    Calls Try.prog f args w fun e w' => e = x ∧ OwnDB R w0 p st q st2 b o w' := by
  have hm : Ob.Own (Ob.Tens (Ob.Tens (fun w S => IsDisk w S p st) (Ob.Tens (fun w S => IsRef w S q st' ∧ ∀ b, S b → w0.heap.size ≤ b) R)) (IsBox b o)) w0 w := by
    obtain ⟨⟨S, ⟨A, B, ⟨C, D, d1, ⟨E, F, e1, e2, e3, e4⟩, d3, d4⟩, h2, h3, h4⟩, hS⟩, hb⟩ := h
    exact ⟨⟨S, ⟨A, B, ⟨C, D, d1, ⟨E, F, ⟨e1, fun x hx => hS x ((h4 x).2 (.inl ((d4 x).2 (.inr ((e4 x).2 (.inl hx))))))⟩, e2, e3, e4⟩, d3, d4⟩, h2, h3, h4⟩, hS⟩, hb⟩
  obtain ⟨S, h1, h2⟩ := Ob.Own.left (objBox b o) hm
  obtain ⟨A, h3, h4⟩ := Ob.Tens.right (objD p st) h1
  obtain ⟨B, h5, h6⟩ := Ob.Tens.left hR h3
  exact (hc B h5.1 h5.2).mono fun e w' ⟨he, hs⟩ => ⟨he, h2 _ _ (h4 _ _ (h6 _ _ hs.obj))⟩
theorem OwnDB.crash {R : Ob.Rel} (hR : Ob.Thing R) {w0 w w' : World} {p q b : Nat} {st st' : St} {o : Go.Obj} (h : OwnDB R w0 p st q st' b o w) (hu : Upon (fun _ => False) w w') {v : Value} {ks : List Int} {db : Nat} (hk : KeepAt w' v ks db) (hdb : ks ≠ [] → w.heap.size ≤ db ∧ db < w'.heap.size) (hz : Small st 0) :
    Calls Try.prog 20 #[.pointer (some ⟨p, 0, none⟩), v] w' fun e w'' => e = .returned (.tuple #[]) ∧ OwnDB R w0 p (Dsk.crash st ks) q st' b o w'' := by
  have hm : Ob.Own (Ob.Tens (Ob.Tens (fun x S => IsDisk x S p st ∧ ∀ b, S b → b < w.heap.size) (Ob.Tens (fun w S => IsRef w S q st') R)) (IsBox b o)) w0 w := by
    obtain ⟨⟨S, ⟨A, B, ⟨C, D, d1, d2, d3, d4⟩, h2, h3, h4⟩, hS⟩, hb⟩ := h
    exact ⟨⟨S, ⟨A, B, ⟨C, D, ⟨d1, d1.lt⟩, d2, d3, d4⟩, h2, h3, h4⟩, hS⟩, hb⟩
  have ht : Ob.Thing (fun x S => IsDisk x S p st ∧ ∀ b, S b → b < w.heap.size) := ⟨fun a c S h hk hs => ⟨h.1.kept hk hs, h.2⟩, fun a S h => h.1.lt⟩
  have hm2 := Ob.Own.upon0 (Ob.Tens.ob (Ob.Tens.ob ht (Ob.Tens.ob (objF q st') hR)) (objBox b o)) hm hu
  obtain ⟨S, h1, h2⟩ := Ob.Own.left (objBox b o) hm2
  obtain ⟨A, h3, h4⟩ := Ob.Tens.left (Ob.Tens.ob (objF q st') hR) h1
  exact (crash_any A p st ks v db w' h3.1 hk (fun hn => ⟨(hdb hn).2, fun hS => by have := h3.2 _ hS; have := (hdb hn).1; omega⟩) (fun f hf => by have := hz.file f hf; omega) hz.chs).mono fun e w'' ⟨he, hs⟩ => ⟨he, h2 _ _ (h4 _ _ hs.obj)⟩

set_option maxRecDepth 100000 in
set_option maxHeartbeats 3200000 in
theorem act_app {R : Ob.Rel} (hR : Ob.Thing R) (w0 w : World) (p q : Nat) (st st' : St) (nm nt s : ByteArray) (n : Int) (kv : Value) (h : OwnDR R w0 p st q st' w) (hn : nm.size ≤ maxLen) (ht : nt.size ≤ maxLen) (hs : s.size ≤ 1000) (hz : Small st s.size) (hfit : RFit st' s.size) :
    Calls Try.prog 7 #[.pointer (some ⟨p, 0, none⟩), .pointer (some ⟨q, 0, none⟩), .agg #[.int .i64 0, .string nm, .string nt, .string s, .int .i64 n, kv]] w
      fun e w' => e = .returned (.bool (appE st nm.data.toList s.data.toList == appE st' nm.data.toList s.data.toList)) ∧ OwnDR R w0 p (appS st nm.data.toList s.data.toList) q (appS st' nm.data.toList s.data.toList) w' := by
  have hb := OwnDR.boxed hR h (opObj 0 nm nt s n kv)
  obtain ⟨b0, b1, b2, b3, b4, b5⟩ := box6 hb.box
  have HD : Hid (∀ (X : World) (st2 : St), OwnDB R w0 p st q st2 w.heap.size (opObj 0 nm nt s n kv) X → Calls Try.prog 17 #[.pointer (some ⟨p, 0, none⟩), .string nm, .string s] X fun e w' => e = .returned (.int .i64 (appE st nm.data.toList s.data.toList)) ∧ OwnDB R w0 p (appS st nm.data.toList s.data.toList) q st2 w.heap.size (opObj 0 nm nt s n kv) w') := Lib.hid fun X st2 hX =>
    hX.l hR fun S hS => app_any S p st nm s hn (by have := hz.used; omega) (fun f hf => by have := hz.file f hf; omega) (by omega) hz.chs X hS
  have HR : Hid (∀ (X : World) (st2 : St), OwnDB R w0 p st2 q st' w.heap.size (opObj 0 nm nt s n kv) X → Calls Try.prog 21 #[.pointer (some ⟨q, 0, none⟩), .string nm, .string s] X fun e w' => e = .returned (.int .i64 (appE st' nm.data.toList s.data.toList)) ∧ OwnDB R w0 p st2 q (appS st' nm.data.toList s.data.toList) w.heap.size (opObj 0 nm nt s n kv) w') := Lib.hid fun X st2 hX =>
    hX.r hR fun S hS => refapp_any S q st' nm s hn X hS hfit.fine (by have := hfit.small.used; omega) hfit.room (fun f hf => by have := hfit.small.file f hf; omega) (by omega) hfit.small.chs hfit.nF
  clear h hz hfit
  generalize appE st nm.data.toList s.data.toList = E1 at *
  generalize appE st' nm.data.toList s.data.toList = E2 at *
  generalize appS st nm.data.toList s.data.toList = s1 at *
  generalize appS st' nm.data.toList s.data.toList = s2 at *
  obtain ⟨B, hB⟩ : ∃ B, B = w.heap.size := ⟨_, rfl⟩
  rw [← hB] at HD HR hb b0 b1 b2 b3 b4 b5
  obtain ⟨W, hW⟩ : ∃ W, W = w.alloc (opObj 0 nm nt s n kv) := ⟨_, rfl⟩
  rw [← hW] at hb b0 b1 b2 b3 b4 b5
  go_enter Try.func7, Try.ntmps7
  go_wp2_with fail
  rw [← hB, show w.alloc (.cells #[.int .i64 0, .string nm, .string nt, .string s, .int .i64 n, kv] 29) = W from hW.symm]
  clear hW hB
  have hb' := hb.drew hR
  have hg' := held 0 nm nt s n kv hb'
  go_region_held3 (fun w' => w'.cell? ⟨B, 1, none⟩ = some (.string nm) ∧ w'.cell? ⟨B, 2, none⟩ = some (.string nt) ∧ w'.cell? ⟨B, 3, none⟩ = some (.string s))
    (assumption)
    (first
    | (go_at_call 17; (first | refine (HD.out _ _ hb').mono ?_ | refine (HD.out _ _ h3).mono ?_); rintro e w2 ⟨rfl, h2⟩; have g2 := held 0 nm nt s n kv h2)
    | (go_at_call 21; (first | refine (HR.out _ _ hb').mono ?_ | refine (HR.out _ _ h2).mono ?_); rintro e w3 ⟨rfl, h3⟩; have g3 := held 0 nm nt s n kv h3)
    | fail)
  all_goals
    replace h2 := Lib.hid h2
    replace h3 := Lib.hid h3
    clear hb' hg' g2 g3 HD HR hb
    go_wp2_with fail
    go_ret
    first
    | exact ⟨rfl, Ob.Own.dropr h3.out⟩
    | exact ⟨rfl, Ob.Own.dropr h2.out⟩
set_option maxRecDepth 100000 in
set_option maxHeartbeats 3200000 in
theorem act_sync {R : Ob.Rel} (hR : Ob.Thing R) (w0 w : World) (p q : Nat) (st st' : St) (nm nt s : ByteArray) (n : Int) (kv : Value) (h : OwnDR R w0 p st q st' w) (hn : nm.size ≤ maxLen) (ht : nt.size ≤ maxLen) (hs : s.size ≤ 1000) (hz : Small st s.size) (hfit : RFit st' s.size) :
    Calls Try.prog 7 #[.pointer (some ⟨p, 0, none⟩), .pointer (some ⟨q, 0, none⟩), .agg #[.int .i64 1, .string nm, .string nt, .string s, .int .i64 n, kv]] w
      fun e w' => e = .returned (.bool (syncE st nm.data.toList == syncE st' nm.data.toList)) ∧ OwnDR R w0 p (syncS st nm.data.toList) q (syncS st' nm.data.toList) w' := by
  have hb := OwnDR.boxed hR h (opObj 1 nm nt s n kv)
  obtain ⟨b0, b1, b2, b3, b4, b5⟩ := box6 hb.box
  have HD : Hid (∀ (X : World) (st2 : St), OwnDB R w0 p st q st2 w.heap.size (opObj 1 nm nt s n kv) X → Calls Try.prog 18 #[.pointer (some ⟨p, 0, none⟩), .string nm] X fun e w' => e = .returned (.int .i64 (syncE st nm.data.toList)) ∧ OwnDB R w0 p (syncS st nm.data.toList) q st2 w.heap.size (opObj 1 nm nt s n kv) w') := Lib.hid fun X st2 hX =>
    hX.l hR fun S hS => sync_any S p st nm hn X hS
  have HR : Hid (∀ (X : World) (st2 : St), OwnDB R w0 p st2 q st' w.heap.size (opObj 1 nm nt s n kv) X → Calls Try.prog 22 #[.pointer (some ⟨q, 0, none⟩), .string nm] X fun e w' => e = .returned (.int .i64 (syncE st' nm.data.toList)) ∧ OwnDB R w0 p st2 q (syncS st' nm.data.toList) w.heap.size (opObj 1 nm nt s n kv) w') := Lib.hid fun X st2 hX =>
    hX.r hR fun S hS => refsync_any S q st' nm X hS hfit.fine.nmN.ins
  clear h hz hfit
  generalize syncE st nm.data.toList = E1 at *
  generalize syncE st' nm.data.toList = E2 at *
  generalize syncS st nm.data.toList = s1 at *
  generalize syncS st' nm.data.toList = s2 at *
  obtain ⟨B, hB⟩ : ∃ B, B = w.heap.size := ⟨_, rfl⟩
  rw [← hB] at HD HR hb b0 b1 b2 b3 b4 b5
  obtain ⟨W, hW⟩ : ∃ W, W = w.alloc (opObj 1 nm nt s n kv) := ⟨_, rfl⟩
  rw [← hW] at hb b0 b1 b2 b3 b4 b5
  go_enter Try.func7, Try.ntmps7
  go_wp2_with fail
  rw [← hB, show w.alloc (.cells #[.int .i64 1, .string nm, .string nt, .string s, .int .i64 n, kv] 29) = W from hW.symm]
  clear hW hB
  have hb' := hb.drew hR
  have hg' := held 1 nm nt s n kv hb'
  go_region_held3 (fun w' => w'.cell? ⟨B, 1, none⟩ = some (.string nm) ∧ w'.cell? ⟨B, 2, none⟩ = some (.string nt) ∧ w'.cell? ⟨B, 3, none⟩ = some (.string s))
    (assumption)
    (first
    | (go_at_call 18; (first | refine (HD.out _ _ hb').mono ?_ | refine (HD.out _ _ h3).mono ?_); rintro e w2 ⟨rfl, h2⟩; have g2 := held 1 nm nt s n kv h2)
    | (go_at_call 22; (first | refine (HR.out _ _ hb').mono ?_ | refine (HR.out _ _ h2).mono ?_); rintro e w3 ⟨rfl, h3⟩; have g3 := held 1 nm nt s n kv h3)
    | fail)
  all_goals
    replace h2 := Lib.hid h2
    replace h3 := Lib.hid h3
    clear hb' hg' g2 g3 HD HR hb
    go_wp2_with fail
    go_ret
    first
    | exact ⟨rfl, Ob.Own.dropr h3.out⟩
    | exact ⟨rfl, Ob.Own.dropr h2.out⟩
set_option maxRecDepth 100000 in
set_option maxHeartbeats 3200000 in
theorem act_ren {R : Ob.Rel} (hR : Ob.Thing R) (w0 w : World) (p q : Nat) (st st' : St) (nm nt s : ByteArray) (n : Int) (kv : Value) (h : OwnDR R w0 p st q st' w) (hn : nm.size ≤ maxLen) (ht : nt.size ≤ maxLen) (hs : s.size ≤ 1000) (hz : Small st s.size) (hfit : RFit st' s.size) :
    Calls Try.prog 7 #[.pointer (some ⟨p, 0, none⟩), .pointer (some ⟨q, 0, none⟩), .agg #[.int .i64 2, .string nm, .string nt, .string s, .int .i64 n, kv]] w
      fun e w' => e = .returned (.bool (renE st nm.data.toList nt.data.toList == renE st' nm.data.toList nt.data.toList)) ∧ OwnDR R w0 p (renS st nm.data.toList nt.data.toList) q (renS st' nm.data.toList nt.data.toList) w' := by
  have hb := OwnDR.boxed hR h (opObj 2 nm nt s n kv)
  obtain ⟨b0, b1, b2, b3, b4, b5⟩ := box6 hb.box
  have HD : Hid (∀ (X : World) (st2 : St), OwnDB R w0 p st q st2 w.heap.size (opObj 2 nm nt s n kv) X → Calls Try.prog 23 #[.pointer (some ⟨p, 0, none⟩), .string nm, .string nt] X fun e w' => e = .returned (.int .i64 (renE st nm.data.toList nt.data.toList)) ∧ OwnDB R w0 p (renS st nm.data.toList nt.data.toList) q st2 w.heap.size (opObj 2 nm nt s n kv) w') := Lib.hid fun X st2 hX =>
    hX.l hR fun S hS => ren_any S p st nm nt hn ht hz.chs X hS
  have HR : Hid (∀ (X : World) (st2 : St), OwnDB R w0 p st2 q st' w.heap.size (opObj 2 nm nt s n kv) X → Calls Try.prog 24 #[.pointer (some ⟨q, 0, none⟩), .string nm, .string nt] X fun e w' => e = .returned (.int .i64 (renE st' nm.data.toList nt.data.toList)) ∧ OwnDB R w0 p st2 q (renS st' nm.data.toList nt.data.toList) w.heap.size (opObj 2 nm nt s n kv) w') := Lib.hid fun X st2 hX =>
    hX.r hR fun S hS => refren_any S q st' nm nt ht X hS hfit.fine hfit.small.chs
  clear h hz hfit
  generalize renE st nm.data.toList nt.data.toList = E1 at *
  generalize renE st' nm.data.toList nt.data.toList = E2 at *
  generalize renS st nm.data.toList nt.data.toList = s1 at *
  generalize renS st' nm.data.toList nt.data.toList = s2 at *
  obtain ⟨B, hB⟩ : ∃ B, B = w.heap.size := ⟨_, rfl⟩
  rw [← hB] at HD HR hb b0 b1 b2 b3 b4 b5
  obtain ⟨W, hW⟩ : ∃ W, W = w.alloc (opObj 2 nm nt s n kv) := ⟨_, rfl⟩
  rw [← hW] at hb b0 b1 b2 b3 b4 b5
  go_enter Try.func7, Try.ntmps7
  go_wp2_with fail
  rw [← hB, show w.alloc (.cells #[.int .i64 2, .string nm, .string nt, .string s, .int .i64 n, kv] 29) = W from hW.symm]
  clear hW hB
  have hb' := hb.drew hR
  have hg' := held 2 nm nt s n kv hb'
  go_region_held3 (fun w' => w'.cell? ⟨B, 1, none⟩ = some (.string nm) ∧ w'.cell? ⟨B, 2, none⟩ = some (.string nt) ∧ w'.cell? ⟨B, 3, none⟩ = some (.string s))
    (assumption)
    (first
    | (go_at_call 23; (first | refine (HD.out _ _ hb').mono ?_ | refine (HD.out _ _ h3).mono ?_); rintro e w2 ⟨rfl, h2⟩; have g2 := held 2 nm nt s n kv h2)
    | (go_at_call 24; (first | refine (HR.out _ _ hb').mono ?_ | refine (HR.out _ _ h2).mono ?_); rintro e w3 ⟨rfl, h3⟩; have g3 := held 2 nm nt s n kv h3)
    | fail)
  all_goals
    replace h2 := Lib.hid h2
    replace h3 := Lib.hid h3
    clear hb' hg' g2 g3 HD HR hb
    go_wp2_with fail
    go_ret
    first
    | exact ⟨rfl, Ob.Own.dropr h3.out⟩
    | exact ⟨rfl, Ob.Own.dropr h2.out⟩
set_option maxRecDepth 100000 in
set_option maxHeartbeats 3200000 in
theorem act_rem {R : Ob.Rel} (hR : Ob.Thing R) (w0 w : World) (p q : Nat) (st st' : St) (nm nt s : ByteArray) (n : Int) (kv : Value) (h : OwnDR R w0 p st q st' w) (hn : nm.size ≤ maxLen) (ht : nt.size ≤ maxLen) (hs : s.size ≤ 1000) (hz : Small st s.size) (hfit : RFit st' s.size) :
    Calls Try.prog 7 #[.pointer (some ⟨p, 0, none⟩), .pointer (some ⟨q, 0, none⟩), .agg #[.int .i64 3, .string nm, .string nt, .string s, .int .i64 n, kv]] w
      fun e w' => e = .returned (.bool (remE st nm.data.toList == remE st' nm.data.toList)) ∧ OwnDR R w0 p (remS st nm.data.toList) q (remS st' nm.data.toList) w' := by
  have hb := OwnDR.boxed hR h (opObj 3 nm nt s n kv)
  obtain ⟨b0, b1, b2, b3, b4, b5⟩ := box6 hb.box
  have HD : Hid (∀ (X : World) (st2 : St), OwnDB R w0 p st q st2 w.heap.size (opObj 3 nm nt s n kv) X → Calls Try.prog 25 #[.pointer (some ⟨p, 0, none⟩), .string nm] X fun e w' => e = .returned (.int .i64 (remE st nm.data.toList)) ∧ OwnDB R w0 p (remS st nm.data.toList) q st2 w.heap.size (opObj 3 nm nt s n kv) w') := Lib.hid fun X st2 hX =>
    hX.l hR fun S hS => rem_any S p st nm hn hz.chs X hS
  have HR : Hid (∀ (X : World) (st2 : St), OwnDB R w0 p st2 q st' w.heap.size (opObj 3 nm nt s n kv) X → Calls Try.prog 26 #[.pointer (some ⟨q, 0, none⟩), .string nm] X fun e w' => e = .returned (.int .i64 (remE st' nm.data.toList)) ∧ OwnDB R w0 p st2 q (remS st' nm.data.toList) w.heap.size (opObj 3 nm nt s n kv) w') := Lib.hid fun X st2 hX =>
    hX.r hR fun S hS => refrem_any S q st' nm X hS hfit.fine hfit.small.chs
  clear h hz hfit
  generalize remE st nm.data.toList = E1 at *
  generalize remE st' nm.data.toList = E2 at *
  generalize remS st nm.data.toList = s1 at *
  generalize remS st' nm.data.toList = s2 at *
  obtain ⟨B, hB⟩ : ∃ B, B = w.heap.size := ⟨_, rfl⟩
  rw [← hB] at HD HR hb b0 b1 b2 b3 b4 b5
  obtain ⟨W, hW⟩ : ∃ W, W = w.alloc (opObj 3 nm nt s n kv) := ⟨_, rfl⟩
  rw [← hW] at hb b0 b1 b2 b3 b4 b5
  go_enter Try.func7, Try.ntmps7
  go_wp2_with fail
  rw [← hB, show w.alloc (.cells #[.int .i64 3, .string nm, .string nt, .string s, .int .i64 n, kv] 29) = W from hW.symm]
  clear hW hB
  have hb' := hb.drew hR
  have hg' := held 3 nm nt s n kv hb'
  go_region_held3 (fun w' => w'.cell? ⟨B, 1, none⟩ = some (.string nm) ∧ w'.cell? ⟨B, 2, none⟩ = some (.string nt) ∧ w'.cell? ⟨B, 3, none⟩ = some (.string s))
    (assumption)
    (first
    | (go_at_call 25; (first | refine (HD.out _ _ hb').mono ?_ | refine (HD.out _ _ h3).mono ?_); rintro e w2 ⟨rfl, h2⟩; have g2 := held 3 nm nt s n kv h2)
    | (go_at_call 26; (first | refine (HR.out _ _ hb').mono ?_ | refine (HR.out _ _ h2).mono ?_); rintro e w3 ⟨rfl, h3⟩; have g3 := held 3 nm nt s n kv h3)
    | fail)
  all_goals
    replace h2 := Lib.hid h2
    replace h3 := Lib.hid h3
    clear hb' hg' g2 g3 HD HR hb
    go_wp2_with fail
    go_ret
    first
    | exact ⟨rfl, Ob.Own.dropr h3.out⟩
    | exact ⟨rfl, Ob.Own.dropr h2.out⟩
end Dsk
end Go.Proofs.Ytiadjjdmhpabnaa
