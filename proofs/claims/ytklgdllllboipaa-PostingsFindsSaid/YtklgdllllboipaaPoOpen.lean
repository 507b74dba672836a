/- Rows of rows of pairs, and a pair, among the arguments (layer 14). -/
import Derived.Test.YtklgdllllboipaaPoRef4
import Derived.Test.YtklgdllllboipaaPMt1
set_option maxRecDepth 100000
namespace Go.Proofs.Ytklgdllllboipaa
open Go.RowKit Go.ChangeShapes Go.WideShapes
namespace Po
open Bit Dsk Ob Dig
set_option linter.unusedVariables false
section
variable {H : Type} {enc : TypeId × Value → H} {W : World}
theorem open_pr {fuel : Nat} {cs : List Value} {x : DataW H × List MemPlace} (hl : cs.length = 2) (h : DataW.trod enc Try.prog W 0 (fun _ => true) true fuel 28 cs = some x) : ∃ a : Lb.Pr, cs = Lb.layPr.enc a ∧ Sz a := by
  have c0 : Try.prog.cellsOf 9 = 1 := by kernel_rfl
  obtain ⟨xs, k, hk, hxy, _, hxl, hfd⟩ := DataW.trod_struct Try.underlying28 h
  match xs, hxl, cs, hl with
  | [y0, y1], _, [v0, v1], _ =>
    have g0 := hfd 0 _ rfl
    have g1 := hfd 1 _ rfl
    simp [c0] at g0 g1
    obtain ⟨s1, e1, _, z1⟩ := DataW.trod_string Try.underlying9 g0
    obtain ⟨s2, e2, _, z2⟩ := DataW.trod_string Try.underlying9 g1
    obtain rfl := (List.cons.inj e1).1
    obtain rfl := (List.cons.inj e2).1
    exact ⟨(s1, s2), rfl, z1, z2⟩
/-- Numbers have a bound. -/
theorem bound_all : ∀ (l : List Nat), ∃ N, ∀ n ∈ l, n ≤ N
  | [] => ⟨0, fun n h => absurd h (by simp)⟩
  | a :: l => by
    obtain ⟨N, h⟩ := bound_all l
    refine ⟨a + N, fun n hn => ?_⟩
    rcases List.mem_cons.1 hn with rfl | hn
    · omega
    · have := h n hn; omega
/-- A row of pairs, of whatever size. -/
def RowG (W : World) (s : Rw.Sl) : Prop := ∃ l, Lb.View W All s.v l ∧ ∀ q ∈ l, Sz q
theorem open_rowP {fuel : Nat} {cs : List Value} {d : DataW H} {p : List MemPlace} (hl : cs.length = 1) (h : DataW.trod enc Try.prog W 0 (fun _ => true) true fuel 29 cs = some (d, p)) : ∃ s, cs = layS.enc s ∧ RowG W s := by
  obtain ⟨N, hN⟩ := bound_all (d.weights Try.prog 29)
  obtain ⟨A, n, c, l, h1, h2, h3, -⟩ := Rw.open_rowC (L := Lb.layPr) (G := Sz) (N := N) Try.underlying29 (by kernel_rfl) rfl (fun _ _ _ _ hl h _ => open_pr hl h) h hN
  exact ⟨⟨A, n, c⟩, h1, l, h2, h3⟩
end
/-- An argument that is rows of pairs. -/
def IsRows (v : Value) (w : World) : Prop := ∃ rs, PView w All v rs ∧ ∀ r ∈ rs, ∀ q ∈ r, Sz q
theorem open_rows {H : Type} {enc : TypeId × Value → H} {W : World} {base : Nat} {v : Value} {d : DataW H} {p : List MemPlace}
    (hv : Value.okWide Try.prog W .any base 25 v) (h : DataW.Trod enc Try.prog W 0 (fun _ => true) true 25 v d p) : IsRows v W := by
  obtain ⟨a0, len0, cap0, rfl⟩ := okWide_slice Try.underlying25 hv
  obtain ⟨fuel0, hf⟩ := h
  have hf2 : DataW.trod enc Try.prog W 0 (fun _ => true) true fuel0 25 [.slice a0 len0 cap0] = some (d, p) := hf
  obtain ⟨N, hN⟩ := bound_all (d.weights Try.prog 25)
  obtain ⟨A, n, c, ss, h1, h2, h3, -⟩ := Rw.open_rowC (L := layS) (G := RowG W) (N := N) Try.underlying25 (by kernel_rfl) rfl (fun _ _ _ _ hl h _ => open_rowP hl h) hf2 hN
  rw [(List.cons.inj h1).1]
  have hch : ∀ (ss : List Rw.Sl), (∀ s ∈ ss, RowG W s) → ∃ rs : List (List Lb.Pr), ss.length = rs.length ∧ (∀ i (k1 : i < ss.length) (k2 : i < rs.length), Lb.View W All ss[i].v rs[i]) ∧ ∀ r ∈ rs, ∀ q ∈ r, Sz q := by
    intro ss
    induction ss with
    | nil => exact fun _ => ⟨[], rfl, fun i k1 => absurd k1 (by simp), fun r hr => absurd hr (by simp)⟩
    | cons s ss ih =>
      intro hs
      obtain ⟨l, k1, k2⟩ := hs s (List.mem_cons_self ..)
      obtain ⟨rs, e1, e2, e3⟩ := ih fun t ht => hs t (List.mem_cons_of_mem _ ht)
      refine ⟨l :: rs, by simp [e1], fun i q1 q2 => ?_, fun r hr => ?_⟩
      · cases i with
        | zero => exact k1
        | succ i => exact e2 i (by simpa using q1) (by simpa using q2)
      · rcases List.mem_cons.1 hr with rfl | hr
        · exact k2
        · exact e3 r hr
  obtain ⟨rs, e1, e2, e3⟩ := hch ss h3
  exact ⟨rs, ⟨ss, h2, e1, e2⟩, e3⟩
/-- An argument that is a pair. -/
def IsPair (v : Value) (w : World) : Prop := ∃ q, v = prV q ∧ Sz q
theorem open_pair {H : Type} {enc : TypeId × Value → H} {W : World} {base : Nat} {v : Value} {d : DataW H} {p : List MemPlace}
    (hv : Value.okWide Try.prog W .any base 28 v) (h : DataW.Trod enc Try.prog W 0 (fun _ => true) true 28 v d p)
    (hz : ∀ n ∈ d.weights Try.prog 28, n ≤ reachBytes) : IsPair v W := by
  obtain ⟨cs, rfl, hsz⟩ := okWide_struct Try.underlying28 hv
  have c2 : Try.prog.cellsOf 28 = 2 := by kernel_rfl
  rw [c2] at hsz
  obtain ⟨fuel, hf⟩ := h
  have hf2 : DataW.trod enc Try.prog W 0 (fun _ => true) true fuel 28 cs.toList = some (d, p) := hf
  obtain ⟨q, h1, h2⟩ := open_pr (by simpa using hsz) hf2
  exact ⟨q, by unfold prV; congr 1; exact Array.toList_inj.1 h1, h2⟩
end Po
end Go.Proofs.Ytklgdllllboipaa
