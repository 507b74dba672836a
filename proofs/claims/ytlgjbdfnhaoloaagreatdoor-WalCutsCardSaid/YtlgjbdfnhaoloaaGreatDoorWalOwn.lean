/- A log, and its disk, that the law's call has made itself (layer 5): the same contracts over them. -/
import Derived.Test.YtlgjbdfnhaoloaaGreatDoorPWal3
import Derived.Test.YtlgjbdfnhaoloaaGreatDoorPWal4
import Derived.Test.YtlgjbdfnhaoloaaGreatDoorPDisk3
import Derived.Test.YtlgjbdfnhaoloaaGreatDoorWalRepl
set_option linter.unusedSimpArgs false
set_option linter.unusedVariables false
namespace Go.Proofs.YtlgjbdfnhaoloaaGreatDoor
open Go.RowKit Go.Sort
namespace Wal
open Dig Frm Dsk

/-- A disk that was made since W; R: blocks beside it. -/
structure DskO (B : Nat) (W : World) (pd : Nat) (st : St) (R : Nat → Prop) (w : World) : Prop where
  s : ∃ S, Fr B w S pd st (fun _ => False) w ∧ ∀ b, S b → W.heap.size ≤ b ∧ b < w.heap.size ∧ ¬ R b
  below : Below W.heap.size W w
  lt : ∀ b, R b → b < w.heap.size
/-- A log and its disk, likewise. -/
structure LgO (B : Nat) (W : World) (pd pl : Nat) (st : St) (lg : Lg) (R : Nat → Prop) (w : World) : Prop where
  s : ∃ S, LG B w S pd pl st lg ∧ ∀ b, S b → W.heap.size ≤ b ∧ b < w.heap.size ∧ ¬ R b
  below : Below W.heap.size W w
  lt : ∀ b, R b → b < w.heap.size
/-- What a step leaves of the blocks beside. -/
def Kept (R : Nat → Prop) (w w' : World) : Prop := (∀ b, R b → w'.heap[b]? = w.heap[b]?) ∧ w.heap.size ≤ w'.heap.size
theorem Kept.refl (R : Nat → Prop) (w : World) : Kept R w w := ⟨fun _ _ => rfl, Nat.le_refl _⟩
theorem Kept.trans {R : Nat → Prop} {a b c : World} (h : Kept R a b) (k : Kept R b c) : Kept R a c := ⟨fun i hi => (k.1 i hi).trans (h.1 i hi), Nat.le_trans h.2 k.2⟩

theorem step_sets {R S : Nat → Prop} {W w w' : World} (hb : Below W.heap.size W w) (hlt : ∀ b, R b → b < w.heap.size) (hS : ∀ b, S b → W.heap.size ≤ b ∧ b < w.heap.size ∧ ¬ R b) (hu : Upon S w w') :
    (∀ b, more S w w' b → W.heap.size ≤ b ∧ b < w'.heap.size ∧ ¬ R b) ∧ Below W.heap.size W w' ∧ (∀ b, R b → b < w'.heap.size) ∧ Kept R w w' := by
  refine ⟨?_, hb.trans (hu.below hb.size fun b hs => (hS b hs).1), fun b hr => Nat.lt_of_lt_of_le (hlt b hr) hu.size, fun b hr => hu.block b (hlt b hr) fun hs => (hS b hs).2.2 hr, hu.size⟩
  rintro b (hs | hs)
  · exact ⟨(hS b hs).1, Nat.lt_of_lt_of_le (hS b hs).2.1 hu.size, (hS b hs).2.2⟩
  · exact ⟨Nat.le_trans hb.size hs.1, hs.2, fun hr => by have := hlt b hr; omega⟩
theorem LgO.step {B : Nat} {W w w' : World} {pd pl : Nat} {st' : St} {lg' : Lg} {R S : Nat → Prop} (hb : Below W.heap.size W w) (hlt : ∀ b, R b → b < w.heap.size) (hS : ∀ b, S b → W.heap.size ≤ b ∧ b < w.heap.size ∧ ¬ R b)
    (hs : LStep B S pd pl st' lg' w w') : LgO B W pd pl st' lg' R w' ∧ Kept R w w' := by
  obtain ⟨h1, h2, h3, h4⟩ := step_sets hb hlt hS hs.upon
  exact ⟨⟨⟨_, hs.log, h1⟩, h2, h3⟩, h4⟩
theorem LgO.call {B : Nat} {W w : World} {pd pl : Nat} {st st' : St} {lg lg' : Lg} {R : Nat → Prop} (h : LgO B W pd pl st lg R w) {f : FuncId} {args : Array Value} {x : Ending}
    (hc : ∀ S, LG B w S pd pl st lg → Calls Tryz.prog f args w fun e w' => e = x ∧ LStep B S pd pl st' lg' w w') :
    Calls Tryz.prog f args w fun e w' => e = x ∧ LgO B W pd pl st' lg' R w' ∧ Kept R w w' := by
  obtain ⟨⟨S, h1, h2⟩, h3, h4⟩ := h
  exact (hc S h1).mono fun e w' ⟨he, hs⟩ => ⟨he, LgO.step h3 h4 h2 hs⟩
theorem LgO.fine {B : Nat} {W w : World} {pd pl : Nat} {st : St} {lg : Lg} {R : Nat → Prop} (h : LgO B W pd pl st lg R w) : Fine st := by
  obtain ⟨⟨S, ⟨T, l, v, h1, _⟩, _⟩, _, _⟩ := h; exact h1.fine
theorem LgO.disk {B : Nat} {W w : World} {pd pl : Nat} {st : St} {lg : Lg} {R : Nat → Prop} (h : LgO B W pd pl st lg R w) : DskO B W pd st R w := by
  obtain ⟨⟨S, ⟨T, l, v, h1, _⟩, h2⟩, h3, h4⟩ := h
  exact ⟨⟨S, h1.narrow fun _ h => h.elim, h2⟩, h3, h4⟩
theorem DskO.fine {B : Nat} {W w : World} {pd : Nat} {st : St} {R : Nat → Prop} (h : DskO B W pd st R w) : Fine st := by
  obtain ⟨⟨S, h1, _⟩, _, _⟩ := h; exact h1.fine

/-- Blocks beside it turn. -/
theorem Fr.side {B : Nat} {w w' : World} {S T R : Nat → Prop} {pd : Nat} {st : St} (h : Fr B w S pd st T w) (hu : Upon R w w') (hR : ∀ b, R b → B ≤ b) (hSR : ∀ b, S b → ¬ R b) : Fr B w' S pd st T w' ∧ ∀ b, T b → w'.heap[b]? = w.heap[b]? := by
  obtain ⟨Sd, hd, h1, h2⟩ := h.disk
  have hSd : ∀ b, Sd b → S b := fun b hb => (h2 b hb).elim id fun hh => absurd (hd.lt b hb) (by omega)
  have hT : ∀ b, T b → S b := fun b hb => (h.tin b hb).elim id fun hh => absurd (h.lt b hb) (by omega)
  refine ⟨⟨h.env.upon hu hR, ⟨Sd, hd.upon hu fun b hb => hSR b (hSd b hb), h1, fun b hb => .inl (hSd b hb)⟩, fun b hb => Nat.lt_of_lt_of_le (h.lt b hb) hu.size, fun b hb => .inl (hT b hb), Upon.refl _ _, Nat.le_trans h.lo hu.size, h.low⟩, fun b hb => hu.block b (h.lt b hb) (hSR b (hT b hb))⟩
theorem LgO.side {B : Nat} {W w w' : World} {pd pl : Nat} {st : St} {lg : Lg} {R : Nat → Prop} (h : LgO B W pd pl st lg R w) (hu : Upon R w w') (hR : ∀ b, R b → W.heap.size ≤ b) (hB : B ≤ W.heap.size) : LgO B W pd pl st lg (more R w w') w' := by
  obtain ⟨⟨S, ⟨T, l, v, h1, hl⟩, h2⟩, h3, h4⟩ := h
  obtain ⟨g1, g2⟩ := h1.side hu (fun b hb => Nat.le_trans hB (hR b hb)) fun b hb => (h2 b hb).2.2
  refine ⟨⟨S, ⟨T, l, v, g1, hl.kept g2⟩, fun b hb => ⟨(h2 b hb).1, Nat.lt_of_lt_of_le (h2 b hb).2.1 hu.size, ?_⟩⟩, h3.trans (hu.below h3.size hR), ?_⟩
  · rintro (hr | hr)
    · exact (h2 b hb).2.2 hr
    · have := (h2 b hb).2.1; omega
  · rintro b (hr | hr)
    · exact Nat.lt_of_lt_of_le (h4 b hr) hu.size
    · exact hr.2
theorem LgO.narrow {B : Nat} {W w : World} {pd pl : Nat} {st : St} {lg : Lg} {R R' : Nat → Prop} (h : LgO B W pd pl st lg R w) (hR : ∀ b, R' b → R b) : LgO B W pd pl st lg R' w := by
  obtain ⟨⟨S, h1, h2⟩, h3, h4⟩ := h
  exact ⟨⟨S, h1, fun b hb => ⟨(h2 b hb).1, (h2 b hb).2.1, fun hr => (h2 b hb).2.2 (hR b hr)⟩⟩, h3, fun b hb => h4 b (hR b hb)⟩
theorem LgO.grow {B : Nat} {W w w' : World} {pd pl : Nat} {st : St} {lg : Lg} {R : Nat → Prop} (h : LgO B W pd pl st lg R w) (hu : Upon (fun _ => False) w w') (hB : B ≤ W.heap.size) : LgO B W pd pl st lg R w' := by
  obtain ⟨⟨S, ⟨T, l, v, h1, hl⟩, h2⟩, h3, h4⟩ := h
  obtain ⟨g1, g2⟩ := h1.side hu (fun b hb => hb.elim) fun b _ hb => hb
  exact ⟨⟨S, ⟨T, l, v, g1, hl.kept g2⟩, fun b hb => ⟨(h2 b hb).1, Nat.lt_of_lt_of_le (h2 b hb).2.1 hu.size, (h2 b hb).2.2⟩⟩, h3.trans (hu.below h3.size fun _ hb => hb.elim), fun b hb => Nat.lt_of_lt_of_le (h4 b hb) hu.size⟩
theorem DskO.grow {B : Nat} {W w w' : World} {pd : Nat} {st : St} {R : Nat → Prop} (h : DskO B W pd st R w) (hu : Upon (fun _ => False) w w') : DskO B W pd st R w' := by
  obtain ⟨⟨S, h1, h2⟩, h3, h4⟩ := h
  obtain ⟨g1, g2⟩ := h1.side hu (fun b hb => hb.elim) fun b _ hb => hb
  exact ⟨⟨S, g1, fun b hb => ⟨(h2 b hb).1, Nat.lt_of_lt_of_le (h2 b hb).2.1 hu.size, (h2 b hb).2.2⟩⟩, h3.trans (hu.below h3.size fun _ hb => hb.elim), fun b hb => Nat.lt_of_lt_of_le (h4 b hb) hu.size⟩

/-! ### the calls -/
/-- As long as nothing is greater than the model bears. -/
structure Lim (st : St) (n : Nat) : Prop where
  file : ∀ f ∈ st.F, f.s.length ≤ 2000 * n
  chs : st.C.length ≤ 2000
  n : n ≤ 100000
theorem Lim.roomy {st : St} {n : Nat} (h : Lim st n) (hf : Fine st) : Roomy st := by
  have hn := h.n
  have hu := used_le hf h.file
  exact ⟨by omega, fun f hf => by have := h.file f hf; omega, by have := h.chs; omega⟩
theorem Lim.F {st : St} {n : Nat} (h : Lim st n) : ∀ f ∈ st.F, f.s.length ≤ 1000000000000 := fun f hf => by have := h.file f hf; have := h.n; omega
theorem Lim.small {st : St} {n : Nat} (h : Lim st n) (hf : Fine st) : Small st 0 := by
  have hu := used_le hf h.file
  have hn := h.n
  exact ⟨by omega, fun f hf => by have := h.file f hf; omega, by have := h.chs; omega, by omega⟩
theorem Lim.of {st st' : St} {n : Nat} (h : Lim st n) (hF : st'.F = st.F) (hC : st'.C.length ≤ 2000) : Lim st' n := ⟨by rw [hF]; exact h.file, hC, h.n⟩
theorem mod_le {F : List FileS} {i M : Nat} {g : FileS → FileS} (h : ∀ f ∈ F, f.s.length ≤ M) (hg : ∀ f, f.s.length ≤ M → (g f).s.length ≤ M) : ∀ f ∈ F.modify i g, f.s.length ≤ M := by
  intro f hf
  obtain ⟨j, hj, rfl⟩ := List.mem_iff_getElem.1 hf
  rw [List.getElem_modify]
  have hm : F[j]'(by simpa using hj) ∈ F := List.getElem_mem _
  split
  · exact hg _ (h _ hm)
  · exact h _ hm
theorem cutAll_le {M : Nat} : ∀ (N : Nms) (keep : List Int) (F : List FileS), (∀ f ∈ F, f.s.length ≤ M) → ∀ f ∈ cutAll keep N F, f.s.length ≤ M
  | [], _, _, h => h
  | p :: r, keep, F, h => by
    unfold cutAll
    exact cutAll_le r _ _ (mod_le h fun f hf => by unfold cutF; simp only [List.length_take]; omega)
theorem Lim.crash {st : St} {n : Nat} (h : Lim st n) (keep : List Int) : Lim (Dsk.crash st keep) n := ⟨cutAll_le _ _ _ h.file, Nat.zero_le _, h.n⟩
theorem Lim.addF {st : St} {n : Nat} (h : Lim st n) (hn : n < 100000) (k s : Str) (hs : s.length ≤ 2000) (hC : (Dsk.addF st k s).C.length ≤ 2000) : Lim (Dsk.addF st k s) (n + 1) := by
  refine ⟨?_, hC, by omega⟩
  unfold Dsk.addF
  split
  · exact fun f hf => by
      have hf' : f ∈ st.F.modify _ fun f => { f with s := f.s ++ s } := hf
      obtain ⟨j, hj, rfl⟩ := List.mem_iff_getElem.1 hf'
      rw [List.getElem_modify]
      have hm := h.file _ (List.getElem_mem (l := st.F) (by simpa using hj))
      split
      · simp only [List.length_append]; omega
      · omega
  · intro f hf
    have hf' : f ∈ st.F ++ [⟨s, 0⟩] := hf
    rcases List.mem_append.1 hf' with hf' | hf'
    · have := h.file f hf'; omega
    · simp at hf'; subst hf'; show s.length ≤ _; omega
theorem Lim.wr {st : St} {n : Nat} (h : Lim st n) : Lim (wrS st) n := h.of (wrS_F st) (by rw [wrS_C]; exact h.chs)

theorem LgO.last {B : Nat} {W w : World} {pd pl : Nat} {st : St} {lg : Lg} {R : Nat → Prop} (h : LgO B W pd pl st lg R w) :
    Calls Tryz.prog 16 #[.pointer (some ⟨pl, 0, none⟩)] w fun e w' => e = .returned (.int .i64 (lg.last : Int)) ∧ w = w' := by
  obtain ⟨⟨S, ⟨T, l, v, h1, hl⟩, h2⟩, h3, h4⟩ := h
  exact last_is T pd pl lg l v w hl
theorem LgO.durable {B : Nat} {W w : World} {pd pl : Nat} {st : St} {lg : Lg} {R : Nat → Prop} (h : LgO B W pd pl st lg R w) :
    Calls Tryz.prog 14 #[.pointer (some ⟨pl, 0, none⟩)] w fun e w' => e = .returned (.int .i64 (lg.dur : Int)) ∧ w = w' := by
  obtain ⟨⟨S, ⟨T, l, v, h1, hl⟩, h2⟩, h3, h4⟩ := h
  exact dur_is T pd pl lg l v w hl
theorem LgO.first {B : Nat} {W w : World} {pd pl : Nat} {st : St} {lg : Lg} {R : Nat → Prop} (h : LgO B W pd pl st lg R w) :
    Calls Tryz.prog 20 #[.pointer (some ⟨pl, 0, none⟩)] w fun e w' => e = .returned (.int .i64 (lg.first : Int)) ∧ w = w' := by
  obtain ⟨⟨S, ⟨T, l, v, h1, hl⟩, h2⟩, h3, h4⟩ := h
  exact first_is T pd pl lg l v w hl
theorem LgO.append {B : Nat} {W w : World} {pd pl : Nat} {st : St} {lg : Lg} {R : Nat → Prop} (h : LgO B W pd pl st lg R w) (s : ByteArray) (hs : s.size ≤ 9223372036854775807) {n : Nat} (hr : Lim st n) (hsl : Slim lg) :
    Calls Tryz.prog 12 #[.pointer (some ⟨pl, 0, none⟩), .string s] w fun e w' => e = .returned (.tuple #[.int .i64 ((appendL lg st s).n : Int), .int .i64 (appendL lg st s).err]) ∧ LgO B W pd pl (appendL lg st s).st (appendL lg st s).lg R w' ∧ Kept R w w' :=
  h.call fun S hl => append_any B S pd pl st lg s hs (hr.roomy h.fine) hsl w hl
theorem LgO.sync {B : Nat} {W w : World} {pd pl : Nat} {st : St} {lg : Lg} {R : Nat → Prop} (h : LgO B W pd pl st lg R w) :
    Calls Tryz.prog 13 #[.pointer (some ⟨pl, 0, none⟩)] w fun e w' => e = .returned (.int .i64 (syncL lg st).err) ∧ LgO B W pd pl (syncL lg st).st (syncL lg st).lg R w' ∧ Kept R w w' :=
  h.call fun S hl => log_sync_any B S pd pl st lg w hl
theorem LgO.read {B : Nat} {W w : World} {pd pl : Nat} {st : St} {lg : Lg} {R : Nat → Prop} (h : LgO B W pd pl st lg R w) (n : Int) (hn : -9223372036854775808 ≤ n ∧ n ≤ 9223372036854775807) {m : Nat} (hr : Lim st m) :
    Calls Tryz.prog 17 #[.pointer (some ⟨pl, 0, none⟩), .int .i64 n] w fun e w' => e = .returned (.tuple #[.string (readL st n lg.segs).1, .int .i64 (readL st n lg.segs).2]) ∧ LgO B W pd pl st lg R w' ∧ Kept R w w' :=
  h.call fun S hl => read_any' B S pd pl st lg n hn hr.F w hl
theorem LgO.reset {B : Nat} {W w : World} {pd pl : Nat} {st : St} {lg : Lg} {R : Nat → Prop} (h : LgO B W pd pl st lg R w) (n : Int) (hn : -9223372036854775808 ≤ n ∧ n ≤ 9223372036854775807) {m : Nat} (hr : Lim st m) (hsl : Slim lg) :
    Calls Tryz.prog 21 #[.pointer (some ⟨pl, 0, none⟩), .int .i64 n] w fun e w' => e = .returned (.int .i64 (resetL lg st n).err) ∧ LgO B W pd pl (resetL lg st n).st (resetL lg st n).lg R w' ∧ Kept R w w' :=
  h.call fun S hl => log_reset_any B S pd pl st (by have := hr.chs; omega) lg hsl.len n hn w hl
theorem LgO.drop {B : Nat} {W w : World} {pd pl : Nat} {st : St} {lg : Lg} {R : Nat → Prop} (h : LgO B W pd pl st lg R w) (n : Int) (hn : -9223372036854775808 ≤ n ∧ n ≤ 9223372036854775807) {m : Nat} (hr : Lim st m) (hsl : Slim lg) :
    Calls Tryz.prog 19 #[.pointer (some ⟨pl, 0, none⟩), .int .i64 n] w fun e w' => e = .returned (.int .i64 (dropL lg st n).err) ∧ LgO B W pd pl (dropL lg st n).st (dropL lg st n).lg R w' ∧ Kept R w w' :=
  h.call fun S hl => log_drop_any B S pd pl st (by have := hr.chs; omega) lg hsl.len n hn w hl

theorem DskO.step {B : Nat} {W w w' : World} {pd : Nat} {st st' : St} {R S : Nat → Prop} (h1 : Fr B w S pd st (fun _ => False) w) (hb : Below W.heap.size W w) (hlt : ∀ b, R b → b < w.heap.size) (hS : ∀ b, S b → W.heap.size ≤ b ∧ b < w.heap.size ∧ ¬ R b)
    (hf : Fr B w S pd st' (fun _ => False) w') : DskO B W pd st' R w' ∧ Kept R w w' := by
  obtain ⟨g1, g2, g3, g4⟩ := step_sets hb hlt hS hf.upon
  exact ⟨⟨⟨_, hf.restart, g1⟩, g2, g3⟩, g4⟩
theorem DskO.fuse {B : Nat} {W w : World} {pd : Nat} {st : St} {R : Nat → Prop} (h : DskO B W pd st R w) (n : Int) (hn : -9223372036854775808 ≤ n ∧ n ≤ 9223372036854775807) :
    Calls Tryz.prog 11 #[.pointer (some ⟨pd, 0, none⟩), .int .i64 n] w fun e w' => e = .returned (.tuple #[]) ∧ DskO B W pd (Dsk.fuse st n) R w' ∧ Kept R w w' := by
  obtain ⟨⟨S, h1, h2⟩, h3, h4⟩ := h
  exact (h1.step (P := fun e => e = .returned (.tuple #[])) fun Sd hd => fuse_any Sd pd st n hn w hd).mono fun e w' ⟨he, hf, _, _⟩ => ⟨he, DskO.step h1 h3 h4 h2 hf⟩
/-- A crash, with numbers in a block that is none of the disk's. -/
theorem DskO.crash {B : Nat} {W w w' : World} {pd : Nat} {st : St} {R : Nat → Prop} (h : DskO B W pd st R w) (hu : Upon (fun _ => False) w w') {v : Value} {ks : List Int} {db : Nat} (hk : KeepAt w' v ks db) (hdb : ks ≠ [] → w.heap.size ≤ db ∧ db < w'.heap.size) {n : Nat} (hr : Lim st n) :
    Calls Tryz.prog 15 #[.pointer (some ⟨pd, 0, none⟩), v] w' fun e w'' => e = .returned (.tuple #[]) ∧ DskO B W pd (Dsk.crash st ks) R w'' ∧ Kept R w' w'' := by
  have hz := hr.small h.fine
  have h0 := h.grow hu
  obtain ⟨⟨S, h1, h2⟩, h3, h4⟩ := h
  obtain ⟨g1, _⟩ := h1.side hu (fun b hb => hb.elim) fun b _ hb => hb
  have hS' : ∀ b, S b → W.heap.size ≤ b ∧ b < w'.heap.size ∧ ¬ R b := fun b hb => ⟨(h2 b hb).1, Nat.lt_of_lt_of_le (h2 b hb).2.1 hu.size, (h2 b hb).2.2⟩
  have hSd : ∀ Sd, IsDisk w' Sd pd st → (∀ b, Sd b → S b ∨ w'.heap.size ≤ b) → ks ≠ [] → db < w'.heap.size ∧ ¬ Sd db := fun Sd hd hsub hn => ⟨(hdb hn).2, fun hs => by
    rcases hsub db hs with hh | hh
    · have := (h2 db hh).2.1; have := (hdb hn).1; omega
    · have := (hdb hn).2; omega⟩
  obtain ⟨Sd, hd, hd1, hd2⟩ := g1.disk
  have hg : Fr B w' S pd st (fun _ => False) w' := g1
  refine (crash_any Sd pd st ks v db w' hd hk (hSd Sd hd hd2) (fun f hf => by have := hz.file f hf; omega) hz.chs).mono fun e w'' ⟨he, ⟨⟨Sd', hd', k1, k2⟩, hu2⟩⟩ => ⟨he, ?_⟩
  have hSdl : ∀ b, Sd b → S b := fun b hb => (hd2 b hb).elim id fun hh => absurd (hd.lt b hb) (by omega)
  refine DskO.step hg h0.below h0.lt hS' ⟨hg.env.upon hu2 fun b hb => hg.low b (hSdl b hb), ⟨Sd', hd', fun _ _ h => h, fun b hb => (k2 b hb).imp (hSdl b) id⟩, fun _ h => h.elim, fun _ h => h.elim, hu2.mono fun b _ hb => hSdl b hb, hg.lo, hg.low⟩
theorem DskO.open {B : Nat} {W w : World} {pd : Nat} {st : St} {R : Nat → Prop} (h : DskO B W pd st R w) (base : Int) (hb : -9223372036854775808 ≤ base ∧ base ≤ 9223372036854775807) {n : Nat} (hr : Lim st n) {lg : Lg} {st' : St} (ho : openL st base = ⟨some lg, st', 0⟩) :
    Calls Tryz.prog 10 #[.pointer (some ⟨pd, 0, none⟩), .int .i64 base] w fun e w' => ∃ pl, e = .returned (.tuple #[.pointer (some ⟨pl, 0, none⟩), .int .i64 0]) ∧ LgO B W pd pl st' lg R w' ∧ Kept R w w' := by
  obtain ⟨⟨S, h1, h2⟩, h3, h4⟩ := h
  refine (open_any B S pd st base hb hr.F (by have := hr.chs; omega) w h1).mono fun e w' ho' => ?_
  unfold Opn at ho'
  rw [ho] at ho'
  obtain ⟨pl, he, hs⟩ := ho'
  exact ⟨pl, he, LgO.step h3 h4 h2 hs⟩
/-- A new disk. -/
theorem DskO.made {B : Nat} {W w w' : World} {room : Int} {e : Ending} {R : Nat → Prop} (hE : Env B W) (hb : Below W.heap.size W w) (hlt : ∀ b, R b → b < w.heap.size) (h : Made room w e w') :
    ∃ pd, e = .returned (.pointer (some ⟨pd, 0, none⟩)) ∧ DskO B W pd (new room) R w' ∧ Kept R w w' := by
  obtain ⟨S, p, he, h1, h2, hu⟩ := h
  have hEw := hE.below hb
  have hE' : Env B w' := hEw.upon hu fun _ h => h.elim
  have hf := Fr.start hE' h1 fun b hb' => Nat.le_trans hEw.le (h2 b hb')
  refine ⟨p, he, ⟨⟨_, hf.restart.narrow fun _ h => h, ?_⟩, hb.trans (hu.below hb.size fun _ h => h.elim), fun b hr => Nat.lt_of_lt_of_le (hlt b hr) hu.size⟩, fun b hr => hu.block b (hlt b hr) id, hu.size⟩
  rintro b (hs | hs)
  · exact ⟨Nat.le_trans hb.size (h2 b hs), h1.lt b hs, fun hr => by have := hlt b hr; have := h2 b hs; omega⟩
  · omega
theorem lim_new (room : Int) : Lim (new room) 0 := ⟨by simp [new], by simp [new], by omega⟩

/-! ### the log's state, plainly -/
theorem Logs.new (room : Int) : openL (new room) 0 = ⟨some ⟨[], false, false, 0, 0⟩, new room, 0⟩ ∧ Logs (Dsk.new room) ⟨[], false, false, 0, 0⟩ 1 [] 0 ∧ Up (Dsk.new room) := by
  refine ⟨rfl, ⟨⟨rfl, by simp, by simp, trivial, Nat.le_refl _, by simp [recsOf], by simp [recsOf], by simp⟩, rfl, rfl, fun h => (by cases h), Nat.le_refl _, rfl, rfl, fun _ => rfl, by simp, Nat.le_refl _, by simp⟩, rfl, rfl⟩
theorem Logs.slim {st : St} {lg : Lg} {f p : Nat} {X : List Sg} (h : Logs st lg f X p) (hn : (recsOf X).length ≤ 1000000) : Slim lg := by
  have hla := h.last
  have htop := h.hold.top
  have hl := chain_len h.hold.chain
  refine ⟨fun s hs => ?_, by omega, ?_⟩
  · rw [h.segs] at hs
    obtain ⟨x, hx, rfl⟩ := List.mem_map.1 hs
    show (x.recs.map lenF).sum ≤ _
    rw [← frs_len]
    have h1 := frs_le x.recs fun r hr => h.hold.small r (mem_recsOf hx hr)
    have h2 : x.recs.length ≤ (recsOf X).length := by
      obtain ⟨a, b, rfl⟩ := List.append_of_mem hx
      rw [recsOf_append, recsOf_cons]; simp; omega
    omega
  · rw [h.segs, List.length_map]
    omega
end Wal
end Go.Proofs.YtlgjbdfnhaoloaaGreatDoor
