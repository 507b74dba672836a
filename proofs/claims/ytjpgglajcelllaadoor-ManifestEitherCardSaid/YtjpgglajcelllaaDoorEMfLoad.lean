/- Manifests (layer 17): the program's Load over its disk. -/
import Derived.Test.YtjpgglajcelllaaDoorEMfPubP
import Derived.Test.YtjpgglajcelllaaDoorEMfPDec
import Derived.Test.YtjpgglajcelllaaDoorEMfTo
set_option maxRecDepth 100000
namespace Go.Proofs.YtjpgglajcelllaaDoor
open Go.RowKit
namespace Mf
open Bit Dsk Ob Dig
set_option linter.unusedVariables false
/-- What Load tells of a disk. -/
def LoadOf (st : St) (m : M) (x : Int) : Prop :=
  (readE st mN = 0 ∧ Dec ⟨(readA st mN).toArray⟩ m x) ∨ (readE st mN = 12 ∧ m = noneM ∧ x = 0) ∨ (readE st mN ≠ 0 ∧ readE st mN ≠ 12 ∧ m = zero ∧ x = readE st mN)
def LoadE (S : Nat → Prop) (p : Nat) (st : St) (w : World) (e : Ending) (w' : World) : Prop :=
  ∃ (m : M) (x : Int) (u : Rw.Sl), e = .returned (.tuple #[mv m u, .int .i64 x]) ∧ LoadOf st m x ∧ NView w' (Lb.Nw w) u.v m.blocks ∧ Bnd m ∧ Step S p st w w'
/-- A block that the call has made ahead of the disk's step is written. -/
theorem step_set {S : Nat → Prop} {p : Nat} {st : St} {w w1 wc wd : World} (hlt : ∀ b, S b → b < w.heap.size) (hn : New0 w w1) (hs1 : w1.heap.size = w.heap.size + 1) (h : Step S p st w1 wc) (hu : Upon (fun k => k = w.heap.size) wc wd) : Step S p st w wd := by
  obtain ⟨⟨S', h1, h2, h3⟩, hu1⟩ := h
  refine ⟨⟨S', h1.upon hu fun b hb e => ?_, h2, fun b hb => (h3 b hb).elim .inl fun h => .inr (by omega)⟩, ?_⟩
  · rcases h3 b hb with h | h
    · have := hlt b h; omega
    · omega
  · exact ((hn.mono fun _ _ => False.elim).trans' hu1 fun _ _ h => h).trans' hu fun i hi e => by omega
theorem bnd_none : Bnd noneM := ⟨⟨by decide, by decide, by decide, by decide, by decide⟩, fun b hb => by cases hb⟩
set_option maxHeartbeats 25600000 in
theorem load_any (S : Nat → Prop) (p : Nat) (st : St) (w : World) (h : IsDisk w S p st) (hsz : (readA st mN).length ≤ 5000) (hT : ∀ w', Upon S w w' → Crc.Tab w') :
    Calls Tryd.prog 25 #[.pointer (some ⟨p, 0, none⟩)] w (LoadE S p st w) := by
  have hlt := h.lt
  obtain ⟨wa, hwa⟩ : ∃ wa, w.alloc (.cells #[.int .i64 0, .int .i64 0, .int .i64 0, .int .i64 0, .int .i64 0, .slice none 0 0] 26 (0, 0)) = wa := ⟨_, rfl⟩
  have sa : wa.heap.size = w.heap.size + 1 := by rw [← hwa]; simp
  have ua : New0 w wa := by rw [← hwa]; exact (Upon.refl _ w).alloc _
  have hX : Six 26 w.heap.size svZ wa := by rw [← hwa]; exact six_new _ w svZ
  have HR := Lib.hid (read_any S p st ⟨#[109]⟩ sz_m wa (h.upon ua fun _ _ h => h))
  have hno : ¬ S w.heap.size := fun hb => by have := hlt _ hb; omega
  have hset : Hid (∀ wc wd, Step S p st wa wc → Upon (fun k => k = w.heap.size) wc wd → Step S p st w wd) := Lib.hid (fun wc wd h1 h2 => step_set hlt ua sa h1 h2)
  have htab : Hid (∀ wc, Step S p st wa wc → Crc.Tab wc) := Lib.hid (fun wc hs => hT wc ((ua.mono fun _ _ => False.elim).trans' hs.upon fun _ _ h => h))
  have hA : (readA st mN).toArray = (readA st [109]).toArray := rfl
  clear hT h hlt
  go_enter Tryd.func25, Tryd.ntmps25
  go_wp2_with fail
  refine HR.out.mono ?_
  rintro e w2 ⟨rfl, s2⟩
  have hS2 := hX.upon s2.upon hno
  replace s2 := Lib.hid s2
  clear HR hX hwa
  by_cases h0 : readE st [109] = 0
  · have HD := Lib.hid (pdec_any w2 ⟨(readA st [109]).toArray⟩ hsz (htab.out _ s2.out))
    have hL : Hid (∀ m x, Dec ⟨(readA st [109]).toArray⟩ m x → LoadOf st m x) := Lib.hid (fun m x hd => .inl ⟨h0, hd⟩)
    have hws : w.heap.size < w2.heap.size := by have := s2.out.upon.size; omega
    obtain ⟨t, ht⟩ : ∃ t : ByteArray, (⟨(readA st [109]).toArray⟩ : ByteArray) = t := ⟨_, rfl⟩
    rw [ht] at HD
    simp only [ht] at hL
    rw [h0, ht]
    replace hS2 := Lib.hid hS2
    replace hws := Lib.hid hws
    clear hA hsz sa ua hno h0 ht htab
    go_wp2_with fail
    refine HD.out.mono ?_
    rintro e w3 ⟨m, x, ⟨uA, un, uc⟩, rfl, hd, hV, hB, hu⟩
    have hun : un = m.blocks.length := by
      obtain ⟨A, c', h1, -⟩ := Rw.View.shape hV
      simp only [Value.slice.injEq, Rw.Sl.v] at h1
      exact h1.2.1
    subst hun
    have hS3 := hS2.out.new hu
    have s3 := s2.out.then hu
    have hws2 := hws.out
    have hl := hL.out m x hd
    dsimp only [mv, Rw.Sl.v] at hV ⊢
    obtain ⟨c0, c1, c2, c3, c4, c5⟩ := hS3.cells
    have z0 := hS3.frozen 0
    obtain ⟨⟨p1, q1⟩, ⟨p2, q2⟩, ⟨p3, q3⟩, ⟨p4, q4⟩, ⟨p5, q5⟩⟩ := hS3.roads ⟨.int .i64 m.epoch, .int .i64 m.base, .int .i64 m.promise, .int .i64 m.mark, .int .i64 m.check, .slice uA m.blocks.length uc⟩
    have hfz := hS3.setAll ⟨.int .i64 m.epoch, .int .i64 m.base, .int .i64 m.promise, .int .i64 m.mark, .int .i64 m.check, .slice uA m.blocks.length uc⟩
    have huz : Upon (fun k => k = w.heap.size) w3 (setSix w.heap.size ⟨.int .i64 m.epoch, .int .i64 m.base, .int .i64 m.promise, .int .i64 m.mark, .int .i64 m.check, .slice uA m.blocks.length uc⟩ w3) := upon_setSix (Upon.refl _ _) (.inl rfl)
    obtain ⟨r0, r1, r2, r3, r4, r5⟩ := hfz.cells
    have hVz : NView (setSix w.heap.size ⟨.int .i64 m.epoch, .int .i64 m.base, .int .i64 m.promise, .int .i64 m.mark, .int .i64 m.check, .slice uA m.blocks.length uc⟩ w3) (Lb.Nw w) (.slice uA m.blocks.length uc) m.blocks := Rw.View.mono (Rw.View.upon hV huz (fun b hb e => by have h2 : w2.heap.size ≤ b := hb; omega)) fun b _ hb => by have h2 : w2.heap.size ≤ b := hb; show w.heap.size ≤ b; omega
    have hend : LoadE S p st w (.returned (.tuple #[.agg #[.int .i64 m.epoch, .int .i64 m.base, .int .i64 m.promise, .int .i64 m.mark, .int .i64 m.check, .slice uA m.blocks.length uc], .int .i64 x])) (setSix w.heap.size ⟨.int .i64 m.epoch, .int .i64 m.base, .int .i64 m.promise, .int .i64 m.mark, .int .i64 m.check, .slice uA m.blocks.length uc⟩ w3) := ⟨m, x, ⟨uA, m.blocks.length, uc⟩, rfl, hl, hVz, hB, hset.out _ _ s3 huz⟩
    dsimp only [svZ, setSix] at c0 c1 c2 c3 c4 c5 p1 q1 p2 q2 p3 q3 p4 q4 p5 q5 r0 r1 r2 r3 r4 r5 hend
    replace hend := Lib.hid hend
    clear huz hfz hS2 hS3 s2 s3 hset hL hws hws2 hl hVz hV hB hd hu HD
    go_wp2_with fail
    refine bodyPost_ret (v := .tuple #[.agg #[.int .i64 m.epoch, .int .i64 m.base, .int .i64 m.promise, .int .i64 m.mark, .int .i64 m.check, .slice uA m.blocks.length uc], .int .i64 x]) (by simp [results, Tryd.results25, go_sem, r0, r1, r2, r3, r4, r5]) rfl ?_
    exact hend.out
  · by_cases h12 : readE st [109] = 12
    · have hL : Hid (LoadOf st noneM 0) := Lib.hid (.inr (.inl ⟨h12, rfl, rfl⟩))
      have HN : Hid (Calls Tryd.prog 18 #[] w2 fun e w' => e = .returned (.agg #[.int .i64 1, .int .i64 0, .int .i64 1, .int .i64 (-9223372036854775808), .int .i64 0, .slice none 0 0]) ∧ New0 w2 w') := Lib.hid (pnone_any w2)
      rw [h12]
      replace hS2 := Lib.hid hS2
      clear hA hsz sa ua hno h0 h12 htab
      go_wp2_with fail
      refine HN.out.mono ?_
      rintro e w3 ⟨rfl, hu⟩
      have hS3 := hS2.out.new hu
      have s3 := s2.out.then hu
      obtain ⟨c0, c1, c2, c3, c4, c5⟩ := hS3.cells
      have z0 := hS3.frozen 0
      obtain ⟨⟨p1, q1⟩, ⟨p2, q2⟩, ⟨p3, q3⟩, ⟨p4, q4⟩, ⟨p5, q5⟩⟩ := hS3.roads ⟨.int .i64 1, .int .i64 0, .int .i64 1, .int .i64 (-9223372036854775808), .int .i64 0, .slice none 0 0⟩
      have hfz := hS3.setAll ⟨.int .i64 1, .int .i64 0, .int .i64 1, .int .i64 (-9223372036854775808), .int .i64 0, .slice none 0 0⟩
      have huz : Upon (fun k => k = w.heap.size) w3 (setSix w.heap.size ⟨.int .i64 1, .int .i64 0, .int .i64 1, .int .i64 (-9223372036854775808), .int .i64 0, .slice none 0 0⟩ w3) := upon_setSix (Upon.refl _ _) (.inl rfl)
      obtain ⟨r0, r1, r2, r3, r4, r5⟩ := hfz.cells
      have hend : LoadE S p st w (.returned (.tuple #[.agg #[.int .i64 1, .int .i64 0, .int .i64 1, .int .i64 (-9223372036854775808), .int .i64 0, .slice none 0 0], .int .i64 0])) (setSix w.heap.size ⟨.int .i64 1, .int .i64 0, .int .i64 1, .int .i64 (-9223372036854775808), .int .i64 0, .slice none 0 0⟩ w3) := ⟨noneM, 0, ⟨none, 0, 0⟩, rfl, hL.out, Rw.View.noth _ _ _, bnd_none, hset.out _ _ s3 huz⟩
      dsimp only [svZ, setSix] at c0 c1 c2 c3 c4 c5 p1 q1 p2 q2 p3 q3 p4 q4 p5 q5 r0 r1 r2 r3 r4 r5 hend
      replace hend := Lib.hid hend
      clear huz hfz hS2 hS3 s2 s3 hset hL hu HN
      go_wp2_with fail
      refine bodyPost_ret (v := .tuple #[.agg #[.int .i64 1, .int .i64 0, .int .i64 1, .int .i64 (-9223372036854775808), .int .i64 0, .slice none 0 0], .int .i64 0]) (by simp [results, Tryd.results25, go_sem, r0, r1, r2, r3, r4, r5]) rfl ?_
      exact hend.out
    · have hL : Hid (LoadOf st zero (readE st [109])) := Lib.hid (.inr (.inr ⟨h0, h12, rfl, rfl⟩))
      obtain ⟨E, hE⟩ : ∃ E, readE st [109] = E := ⟨_, rfl⟩
      rw [hE] at h0 h12 hL
      rw [hE]
      have d0 : (E == 0) = false := beq_eq_false_iff_ne.2 h0
      have d12 : (E == 12) = false := beq_eq_false_iff_ne.2 h12
      obtain ⟨c0, c1, c2, c3, c4, c5⟩ := hS2.cells
      have z0 := hS2.frozen 0
      obtain ⟨⟨p1, q1⟩, ⟨p2, q2⟩, ⟨p3, q3⟩, ⟨p4, q4⟩, ⟨p5, q5⟩⟩ := hS2.roads ⟨.int .i64 0, .int .i64 0, .int .i64 0, .int .i64 0, .int .i64 0, .slice none 0 0⟩
      have hfz := hS2.setAll ⟨.int .i64 0, .int .i64 0, .int .i64 0, .int .i64 0, .int .i64 0, .slice none 0 0⟩
      have huz : Upon (fun k => k = w.heap.size) w2 (setSix w.heap.size ⟨.int .i64 0, .int .i64 0, .int .i64 0, .int .i64 0, .int .i64 0, .slice none 0 0⟩ w2) := upon_setSix (Upon.refl _ _) (.inl rfl)
      obtain ⟨r0, r1, r2, r3, r4, r5⟩ := hfz.cells
      have hend : LoadE S p st w (.returned (.tuple #[.agg #[.int .i64 0, .int .i64 0, .int .i64 0, .int .i64 0, .int .i64 0, .slice none 0 0], .int .i64 E])) (setSix w.heap.size ⟨.int .i64 0, .int .i64 0, .int .i64 0, .int .i64 0, .int .i64 0, .slice none 0 0⟩ w2) := ⟨zero, E, ⟨none, 0, 0⟩, rfl, hL.out, Rw.View.noth _ _ _, bnd_zero, hset.out _ _ s2.out huz⟩
      dsimp only [svZ, setSix] at c0 c1 c2 c3 c4 c5 p1 q1 p2 q2 p3 q3 p4 q4 p5 q5 r0 r1 r2 r3 r4 r5 hend
      replace hend := Lib.hid hend
      clear huz hfz hS2 s2 htab hset hE hA sa ua hno hsz h0 h12 hL
      go_wp2_with fail
      refine bodyPost_ret (v := .tuple #[.agg #[.int .i64 0, .int .i64 0, .int .i64 0, .int .i64 0, .int .i64 0, .slice none 0 0], .int .i64 E]) (by simp [results, Tryd.results25, go_sem, r0, r1, r2, r3, r4, r5]) rfl ?_
      exact hend.out
end Mf
end Go.Proofs.YtjpgglajcelllaaDoor
