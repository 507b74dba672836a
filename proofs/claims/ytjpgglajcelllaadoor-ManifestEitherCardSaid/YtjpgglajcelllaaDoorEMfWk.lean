/- Manifests (layer 17): what Load tells of a disk that holds one; the law's own trial. -/
import Derived.Test.YtjpgglajcelllaaDoorEMfLoad
set_option maxRecDepth 100000
namespace Go.Proofs.YtjpgglajcelllaaDoor
open Go.RowKit
namespace Mf
open Bit Dsk Ob Dig
set_option linter.unusedVariables false
/-- A disk that the call has made, since a: nothing that was there ahead of W is touched. -/
structure At (W : World) (S : Nat → Prop) (a : World) : Prop where
  low : Below W.heap.size W a
  new : ∀ b, S b → W.heap.size ≤ b
  tab : Crc.Tab W
theorem At.tabs {W a b : World} {S : Nat → Prop} {p : Nat} {st : St} (h : At W S a) (hs : Step S p st a b) : Crc.Tab b := h.tab.below (h.low.trans (hs.upon.below h.low.size h.new))
theorem At.below {W a b : World} {S : Nat → Prop} {p : Nat} {st : St} (h : At W S a) (hs : Step S p st a b) : Below W.heap.size W b := h.low.trans (hs.upon.below h.low.size h.new)
theorem publish_step {W a b : World} {S : Nat → Prop} {p : Nat} {st : St} (ha : At W S a) (hs : Step S p st a b) {k : Nat} (hg : Gro.Grew k st) (hk : k ≤ 900) {S2 : Nat → Prop} {v : Value} {m : M} (hv : MView b S2 v m) (hb : Bnd m) :
    Calls Tryd.prog 22 #[.pointer (some ⟨p, 0, none⟩), v] b fun e w' => e = .returned (.int .i64 (pubA m st).2) ∧ Step S p (pubA m st).1 a w' ∧ Gro.Grew (k + 5) (pubA m st).1 := by
  have ht := ha.tabs hs
  obtain ⟨⟨S', h1, h2, h3⟩, hu⟩ := hs
  exact (publish_any S' p st k hg hk b h1 S2 v m hv hb ht).mono fun e w' ⟨he, hs, hg⟩ => ⟨he, Been.step ⟨h2, h3, hu⟩ hs, hg⟩
theorem load_step {W a b : World} {S : Nat → Prop} {p : Nat} {st : St} (ha : At W S a) (hs : Step S p st a b) (hsz : (readA st mN).length ≤ 5000) :
    Calls Tryd.prog 25 #[.pointer (some ⟨p, 0, none⟩)] b fun e w' => ∃ (m : M) (x : Int) (u : Rw.Sl), e = .returned (.tuple #[mv m u, .int .i64 x]) ∧ LoadOf st m x ∧ NView w' (Lb.Nw b) u.v m.blocks ∧ Bnd m ∧ Step S p st a w' := by
  have hbl := ha.below hs
  obtain ⟨⟨S', h1, h2, h3⟩, hu⟩ := hs
  have hT : ∀ w', Upon S' b w' → Crc.Tab w' := fun w' hu' => ha.tab.below (hbl.trans (hu'.below hbl.size fun c hc => (h3 c hc).elim (ha.new c) fun h => Nat.le_trans ha.low.size h))
  exact (load_any S' p st b h1 hsz hT).mono fun e w' ⟨m, x, u, he, hl, hV, hB, hs⟩ => ⟨m, x, u, he, hl, hV, hB, Been.step ⟨h2, h3, hu⟩ hs⟩
/-! ### plainly -/
def txt (m : M) : Str := (code m).data.toList
theorem txt_len {m : M} (h : Good m) : (txt m).length ≤ 730 := code_le h
theorem txt_back (m : M) : (⟨(txt m).toArray⟩ : ByteArray) = code m := rfl
theorem Held.none {room left : Int} {st : St} (h : Held room left none st) {n : M} {x : Int} (hl : LoadOf st n x) : n = noneM ∧ x = 0 := by
  have h1 := h.read.1 rfl
  rcases hl with ⟨h2, _⟩ | ⟨_, h3, h4⟩ | ⟨_, h2, _⟩
  · rw [h1] at h2; cases h2
  · exact ⟨h3, h4⟩
  · exact absurd h1 h2
theorem Held.some {room left : Int} {st : St} {m : M} (hm : Good m) (hk : -9223372036854775808 ≤ m.mark ∧ m.mark ≤ 9223372036854775807) (h : Held room left (some (txt m)) st) {n : M} {x : Int} (hl : LoadOf st n x) : n = m ∧ x = 0 := by
  obtain ⟨h1, h5⟩ := h.read.2 _ rfl
  rcases hl with ⟨h2, hd⟩ | ⟨h2, _⟩ | ⟨h2, _⟩
  · rw [h5, txt_back] at hd
    exact hd.one (Dec.back hm hk)
  · rw [h1] at h2; cases h2
  · exact absurd h1 h2
theorem Held.short {room left : Int} {o : Option Str} {st : St} (h : Held room left o st) : (readA st mN).length ≤ 5000 := by
  obtain ⟨i, t, F, rfl, h2⟩ := h
  cases o with
  | none => cases t <;> simp [readA, nmsB, nmsT, lookN, mN, nN]
  | some s =>
    obtain ⟨h3, h4⟩ := h2 s rfl
    cases t <;> simp [readA, nmsB, nmsT, lookN, mN, nN, h3] <;> omega
/-! ### the law's own trial -/
def wkM : M := ⟨2, 0, 2, 0, 0, []⟩
theorem wk_good : Good wkM := chk_zero.1 (by decide)
def wk1 : St := (pubA wkM (new 1000)).1
def wk2 : St := Dsk.crash wk1 []
theorem wk_pub : (pubA wkM (new 1000)).2 = 0 ∧ Held 1000 (-1) (some (txt wkM)) wk1 ∧ Held 1000 (-1) (some (txt wkM)) wk2 ∧ Held 1000 (-1) none (new 1000) := by
  have h0 := (only_new 1000).held
  have hz := txt_len wk_good
  have he : pubA wkM (new 1000) = pub (txt wkM) (new 1000) := pubA_ok (by decide) _
  rcases h0.pub (s := txt wkM) (by omega) (by show ((0 : Nat) : Int) + _ ≤ _; omega) with ⟨h1, l', h2, h3⟩ | ⟨_, h1, _⟩
  · have h4 := h3 (by decide)
    subst h4
    refine ⟨by rw [he]; exact h1, by unfold wk1; rw [he]; exact h2.held, ?_, h0⟩
    unfold wk2 wk1
    rw [he]
    exact (h2.crash []).held
  · omega
end Mf
end Go.Proofs.YtjpgglajcelllaaDoor
