/- Layer 13: the program's head as an object: what the laws ask of it. -/
import Derived.Test.YtfheehlfodoimaaGreatPHd4
import Derived.Test.YtfheehlfodoimaaGreatPHd5
import Derived.Test.YtfheehlfodoimaaGreatHdAppP
import Derived.Test.YtfheehlfodoimaaGreatHdQry
import Derived.Test.YtfheehlfodoimaaGreatHdCpy
set_option maxRecDepth 100000
namespace Go.Proofs.YtfheehlfodoimaaGreat
open Go.RowKit Go.Sort
namespace Hd
open Bit Dsk Ob Dig Go.Proofs.YtfheehlfodoimaaGreat.Nm
set_option linter.unusedVariables false
/-- The program's head, as an object. -/
def IsPH (p : Nat) (h : H) : Ob.Rel := fun w S => (∃ A R b N bs rs, HeadP w A R p b N bs rs h ∧ ∀ k, A k ∨ R k → S k) ∧ (∀ k, S k → k < w.heap.size) ∧ h.length ≤ 256
theorem thingPH (p : Nat) (h : H) : Thing (IsPH p h) :=
  ⟨fun w w' S ⟨⟨A, R, b, N, bs, rs, h1, h2⟩, h3, h4⟩ hk hs => ⟨⟨A, R, b, N, bs, rs, h1.keep (fun b hb => hk b (h2 b hb)) hs, h2⟩, fun b hb => Nat.lt_of_lt_of_le (h3 b hb) hs, h4⟩, fun w S h b hb => h.2.1 b hb⟩
theorem pnew_any (w : World) : Calls Tryz.prog 5 #[] w fun e w' => ∃ (p : Nat) (S : Nat → Prop), e = .returned (.pointer (some ⟨p, 0, none⟩)) ∧ IsPH p [] w' S ∧ (∀ b, S b → w.heap.size ≤ b) ∧ New0 w w' := by
  refine (hnew_any w).mono ?_
  rintro e w' ⟨p, b, he, h1, h2, h3, h4⟩
  refine ⟨p, fun x => x = p ∨ x = b, he, ⟨⟨_, _, _, _, _, _, h1, fun k hk => hk.elim id (fun f => f.elim)⟩, fun k hk => h1.lt k (.inl hk), by simp⟩, fun k hk => ?_, h4⟩
  rcases hk with rfl | rfl
  · exact h2
  · exact h3
theorem ptry_any (w : World) {S : Nat → Prop} {p : Nat} {h : H} (hh : IsPH p h w S) (hs : Srt h) (T : Nat → Prop) (v : Value) (r : Rc.R) (hv : Rc.RView w T v r) (hb : Rc.Bnd r) (hsane : SaneN r.smp.length h) (hsl : ∀ x ∈ r.smp, x.1.length ≤ 1000000000) :
    Calls Tryz.prog 7 #[.pointer (some ⟨p, 0, none⟩), v] w fun e w' => e = .returned (.int .i64 (tr h r : Int)) ∧ New0 w w' :=
  let ⟨⟨_, _, _, _, _, _, h1, _⟩, _, h4⟩ := hh
  htry_any w h1 hs h4 T v r hv hb (by have := hsane.len; omega)
theorem app_few {h : H} (r : Rc.R) (hf : h.length ≤ 256) : (app h r).length ≤ 256 := by
  by_cases ht : tr h r = 0
  · obtain ⟨-, g, hg, hl⟩ := tr_zero ht
    by_cases hk : r.kind = 2
    · rw [app_del ht hk, del, List.length_map]; exact hf
    · rw [app_com ht hk hg]; exact hl
  · rw [app_no ht]; exact hf
theorem papp_any (w : World) {S : Nat → Prop} {p : Nat} {h : H} (hh : IsPH p h w S) (hs : Srt h) (T : Nat → Prop) (v : Value) (r : Rc.R) (hv : Rc.RView w T v r) (hTS : ∀ b, T b → ¬ S b) (hb : Rc.Bnd r) (hsane : SaneN r.smp.length h) (hsl : ∀ x ∈ r.smp, x.1.length ≤ 1000000000) :
    Calls Tryz.prog 9 #[.pointer (some ⟨p, 0, none⟩), v] w fun e w' => e = .returned (.int .i64 (tr h r : Int)) ∧ ObjStep (IsPH p (app h r)) S w w' := by
  obtain ⟨⟨A, R, b, N, bs, rs, h1, h2⟩, h3, h4⟩ := hh
  refine (happ_any w h1 hs h4 T v r hv (fun b hb hA => hTS b hb (h2 b (.inl hA))) hb hsane).mono ?_
  rintro e w' ⟨he, A', R', N', bs', rs', k1, k2, k3, k4, hup⟩
  refine ⟨he, ⟨fun b => S b ∨ (w.heap.size ≤ b ∧ b < w'.heap.size), ⟨⟨A', R', b, N', bs', rs', k1, fun b hb => ?_⟩, fun b hb => ?_, app_few r h4⟩, fun b hb => .inl hb, fun b hb => hb.imp id fun k => k.1⟩, hup.mono fun b _ hb => h2 b (.inl hb)⟩
  · have hlt := k1.lt b hb
    rcases hb with hb | hb
    · exact (k3 b hb).imp (fun k => h2 b (.inl k)) fun k => ⟨k, hlt⟩
    · exact (k4 b hb).imp (fun k => h2 b (.inr k)) fun k => ⟨k, hlt⟩
  · rcases hb with hb | hb
    · exact Nat.lt_of_lt_of_le (h3 b hb) hup.size
    · exact hb.2
theorem pquery_any (w : World) {S : Nat → Prop} {p : Nat} {h : H} (hh : IsPH p h w S) (hs : Srt h) (hsane : Sane h) (T : Nat → Prop) (v : Value) (ms : List Mt.M) (hv : Mt.View w T v ms) (hb : Mt.Bnd ms) (a b : Int) (ha : -9223372036854775808 ≤ a ∧ a ≤ 9223372036854775807) (hb2 : -9223372036854775808 ≤ b ∧ b ≤ 9223372036854775807) :
    Calls Tryz.prog 32 #[.pointer (some ⟨p, 0, none⟩), v, .int .i64 a, .int .i64 b] w fun e w' => ∃ u, e = .returned u ∧ QView w' (Lb.Nw w) u (query h ms a b) ∧ New0 w w' :=
  let ⟨⟨_, _, _, _, _, _, h1, _⟩, _, _⟩ := hh
  hquery_any w h1 hs hsane T v ms hv hb a b
theorem ptop_any (w : World) {S : Nat → Prop} {p : Nat} {h : H} (hh : IsPH p h w S) (hs : Srt h) (hsane : Sane h) :
    Calls Tryz.prog 27 #[.pointer (some ⟨p, 0, none⟩)] w fun e w' => e = .returned (.tuple #[.int .i64 (top h).1, .bool (top h).2]) ∧ New0 w w' :=
  let ⟨⟨_, _, _, _, _, _, h1, _⟩, _, _⟩ := hh
  htop_any w h1 hs hsane.len
theorem pcounts_any (w : World) {S : Nat → Prop} {p : Nat} {h : H} (hh : IsPH p h w S) (hs : Srt h) (hsane : Sane h) (hp : points h ≤ 4611686018427387904) :
    Calls Tryz.prog 25 #[.pointer (some ⟨p, 0, none⟩)] w fun e w' => e = .returned (.tuple #[.int .i64 (h.length : Int), .int .i64 (points h : Int)]) ∧ New0 w w' :=
  let ⟨⟨_, _, _, _, _, _, h1, _⟩, _, _⟩ := hh
  hcounts_any w h1 hs hp
end Hd
end Go.Proofs.YtfheehlfodoimaaGreat
