/- The document's own matchers (layer 11): In's methods beside other objects; Take. -/
import Derived.Test.YtckphnemnbejmaaMtRef3
set_option maxRecDepth 100000
namespace Go.Proofs.Ytckphnemnbejmaa
open Go.RowKit Go.Sort
namespace Mt
open Bit Dsk Ob Dig Lb
set_option linter.unusedVariables false

/-! ### In, beside whatever else -/
theorem ioBox {J : Ob.Rel} {p : Nat} {s : ByteArray} {e : Nat} {w0 w : World} (h : Own (Tens (InO p s e) J) w0 w) : Boxed p (.string s) (.int .i64 (e : Int)) w := by
  obtain ⟨A, hA⟩ := h.seeL
  exact Rw.box2See hA
theorem ioMust {J : Ob.Rel} (hJ : Thing J) {p : Nat} {s : ByteArray} {e : Nat} {w0 w : World} (h : Own (Tens (InO p s e) J) w0 w) (b : Bool) (y : Nat) :
    Calls Try.prog 43 #[.pointer (some ⟨p, 0, none⟩), .bool b, .int .i64 (y : Int)] w fun r w' => r = .returned (.tuple #[]) ∧ Own (Tens (InO p s (mustE b e y)) J) w0 w' :=
  ownL (Q := fun r => r = .returned (.tuple #[])) hJ h fun A _ hA => inmust_any w A p s b e y hA
theorem ioNum {J : Ob.Rel} (hJ : Thing J) {p : Nat} {s : ByteArray} {w0 w : World} {n k x : Nat} (h : Own (Tens (InO p s 0) J) w0 w) (hs : s.size ≤ 4611686018427387904) (hg : gotN s.data.toList = (n, k, x)) :
    Calls Try.prog 42 #[.pointer (some ⟨p, 0, none⟩)] w fun e w' => e = .returned (.int .u64 (n : Int)) ∧ Own (Tens (InO p (s.extract k s.size) x) J) w0 w' :=
  ownL (Q := fun e => e = .returned (.int .u64 (n : Int))) hJ h fun A _ hA => innum_any w A p s (by omega) n k x hg _ rfl hA
theorem ioText {J : Ob.Rel} (hJ : Thing J) {p : Nat} {r : ByteArray} {w0 w : World} {most : Int} {n k x : Nat} (h : Own (Tens (InO p r 0) J) w0 w) (hs : r.size ≤ 4611686018427387904) (hm : most ≤ 9223372036854775807) (hg : gotT r.data.toList most = (n, k, x)) :
    Calls Try.prog 44 #[.pointer (some ⟨p, 0, none⟩), .int .i64 most] w fun e w' => e = .returned (.string (r.extract k (k + n))) ∧ Own (Tens (InO p (r.extract (k + n) r.size) x) J) w0 w' :=
  ownL (Q := fun e => e = .returned (.string (r.extract k (k + n)))) hJ h fun A _ hA => intext_any w A p r most hs hm n k x hg _ _ rfl rfl hA
theorem ioTextNo {J : Ob.Rel} (hJ : Thing J) {p : Nat} {r : ByteArray} {w0 w : World} {most : Int} {e : Nat} (h : Own (Tens (InO p r e) J) w0 w) (he : e ≠ 0) :
    Calls Try.prog 44 #[.pointer (some ⟨p, 0, none⟩), .int .i64 most] w fun x w' => x = .returned (.string ByteArray.empty) ∧ Own (Tens (InO p r e) J) w0 w' :=
  ownL (Q := fun x => x = .returned (.string ByteArray.empty)) hJ h fun A _ hA => intext_err w A p r most e he hA
theorem ioSet {J : Ob.Rel} (hJ : Thing J) {p : Nat} {s : ByteArray} {e : Nat} {w0 w : World} (h : Own (Tens (InO p s e) J) w0 w) (y : Nat) : Own (Tens (InO p s y) J) w0 (w.setCell ⟨p, 1, none⟩ (.int .i64 (y : Int))) := by
  obtain ⟨A, hA, go⟩ := h.left hJ
  exact go _ _ (Rw.box2Set1 hA (Upon.refl _ w))

/-! ### Take -/
/-- How far Take is. -/
def St (s : List UInt8) (n e j : Nat) (l : List M) (r : List UInt8) : Prop := (e ≠ 0 ∧ (tk s).2.2 = e) ∨ (e = 0 ∧ ∃ k, gotN s = (n, k, 0) ∧ ¬ 8 < n ∧ Read n (s.drop k) j l r)
theorem St.start {s : List UInt8} {n k x : Nat} {b : Bool} (h : gotN s = (n, k, x)) (hb : b = true ↔ n ≤ 8) : St s n (mustE b x 8) 0 [] (s.drop k) := by
  by_cases hx : x = 0
  · subst hx
    cases b with
    | true => exact .inr ⟨by simp [mustE], k, h, by have := hb.1 rfl; omega, Read.start _ _⟩
    | false =>
      have hn : 8 < n := by
        by_cases c : n ≤ 8
        · exact absurd (hb.2 c) (by decide)
        · omega
      exact .inl ⟨by simp [mustE], by rw [tk_long h hn]; simp [mustE]⟩
  · have e : mustE b x 8 = x := by simp [mustE, hx]
    rw [e]
    exact .inl ⟨hx, by rw [tk_num h hx]⟩
theorem St.few {s : List UInt8} {n j : Nat} {l : List M} {r : List UInt8} (h : St s n 0 j l r) : l.length = j ∧ j ≤ n ∧ n ≤ 8 := by
  rcases h with ⟨h, -⟩ | ⟨-, k, -, h2, h3, h4, -⟩
  · exact absurd rfl h
  · exact ⟨h4, h3, by omega⟩
theorem St.step {s : List UInt8} {n j : Nat} {l : List M} {r r1 : List UInt8} {m : M} (h : St s n 0 j l r) (hj : j < n) (h1 : one r = (m, r1, 0)) : St s n 0 (j + 1) (l ++ [m]) r1 := by
  rcases h with ⟨h, -⟩ | ⟨-, k, k1, k2, k3⟩
  · exact absurd rfl h
  · exact .inr ⟨rfl, k, k1, k2, k3.step hj h1⟩
theorem St.bad {s : List UInt8} {n j j' : Nat} {l l' : List M} {r r' : List UInt8} {e : Nat} (h : St s n 0 j l r) (hj : j < n) (h1 : (one r).2.2 = e) (he : e ≠ 0) : St s n e j' l' r' := by
  rcases h with ⟨h, -⟩ | ⟨-, k, k1, k2, k3⟩
  · exact absurd rfl h
  · exact .inl ⟨he, by rw [tk_bad k1 k2 (k3.bad hj h1 he) he]⟩
/-- What Take leaves: the error; if there is none, the matchers, and what is left. -/
def TkE (s : List UInt8) (x : Nat) (l : List M) (r : List UInt8) : Prop := (tk s).2.2 = x ∧ (x = 0 → tk s = (l, r, 0))
theorem St.err {s : List UInt8} {n e j : Nat} {l : List M} {r : List UInt8} (h : St s n e j l r) (he : e ≠ 0) : TkE s e l r := by
  rcases h with ⟨-, h⟩ | ⟨h, -⟩
  · exact ⟨h, fun c => absurd c he⟩
  · exact absurd h he
theorem St.fin {s : List UInt8} {n j : Nat} {l : List M} {r : List UInt8} (h : St s n 0 j l r) (hj : ¬ j < n) : TkE s (chk l) l r := by
  rcases h with ⟨h, -⟩ | ⟨-, k, k1, k2, k3⟩
  · exact absurd rfl h
  · have hp := k3.last hj
    by_cases hc : chk l = 0
    · have := tk_ok k1 k2 hp hc
      rw [hc]
      exact ⟨by rw [this], fun _ => this⟩
    · exact ⟨by rw [tk_chk k1 k2 hp hc], fun c => absurd c hc⟩
theorem Bnd.snoc {l : List M} {m : M} (h : Bnd l) (hm : Bnd1 m) : Bnd (l ++ [m]) := fun x hx => by
  rcases List.mem_append.1 hx with hx | hx
  · exact h x hx
  · rw [List.mem_singleton.1 hx]; exact hm
theorem bnd_wrap (k : Int) {a b : ByteArray} (ha : a.size ≤ 9223372036854775807) (hb : b.size ≤ 9223372036854775807) : Bnd1 (IntKind.i64.wrap k, a, b) := by
  refine ⟨?_, ?_, ha, hb⟩ <;> simp only [IntKind.wrap_i64] <;> omega
theorem view_two (w : World) (k : Int) (a b : ByteArray) : View (w.alloc (.cells #[.int .i64 k, .string a, .string b] 37 (0, 0))) All (.slice (some ⟨w.heap.size, 0, none⟩) 1 1) [(k, a, b)] := view_one (cell_new w _)
/-- A row, appended to, beside the reader and more. -/
theorem ioRow {R : Ob.Rel} (hR : Thing R) {p : Nat} {s : ByteArray} {e : Nat} {w0 w w' : World} {v v' : Value} {l m : List M} (H : Own (Tens (InO p s e) (Tens R (Rw.RowO layM 37 v l))) w0 w) (hown : Mine w' v' m) (hg : w.grownBy w' v.ownBlock) (hb : v'.ownBlock = v.ownBlock ∨ v'.ownBlock = some w.heap.size) : Own (Tens (InO p s e) (Tens R (Rw.RowO layM 37 v' m))) w0 w' :=
  (Rw.rowAppend (Tens.ob (thingIn _ _ _) hR) H.cossa hown hg hb).assoc
theorem ioSeeRow {R : Ob.Rel} {p : Nat} {s : ByteArray} {e : Nat} {w0 w : World} {v : Value} {l : List M} (H : Own (Tens (InO p s e) (Tens R (Rw.RowO layM 37 v l))) w0 w) : Mine w v l := Rw.rowSee H.dropl
end Mt
end Go.Proofs.Ytckphnemnbejmaa
