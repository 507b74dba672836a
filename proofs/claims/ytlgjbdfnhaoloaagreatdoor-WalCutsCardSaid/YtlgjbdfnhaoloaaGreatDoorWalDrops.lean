/- The law WalDrops (layer 5), walked: whole segments are let go. -/
import Derived.Test.YtlgjbdfnhaoloaaGreatDoorWalOnLaw
set_option linter.unusedSimpArgs false
set_option linter.unusedVariables false
namespace Go.Proofs.YtlgjbdfnhaoloaaGreatDoor
open Go.RowKit Go.Sort
namespace Wal
open Dig Frm Dsk

/-! ### plainly: segments of sixteen -/
structure Sixteen (X : List Sg) : Prop where
  first : ∀ i x, X[i]? = some x → x.first = 16 * i + 1
  full : ∀ i x, X[i]? = some x → i + 1 < X.length → x.recs.length = 16
  most : ∀ x ∈ X, x.recs.length ≤ 16
theorem sixteen_nil : Sixteen [] := ⟨by simp, by simp, by simp⟩
theorem sixteen_total : ∀ {X : List Sg} {x : Sg}, Sixteen (X ++ [x]) → (recsOf X).length = 16 * X.length := by
  intro X x h
  have : ∀ k, k ≤ X.length → (recsOf (X.take k)).length = 16 * k := by
    intro k
    induction k with
    | zero => intro _; rfl
    | succ k ih =>
      intro hk
      have hlt : k < X.length := by omega
      rw [List.take_succ_eq_append_getElem hlt, recsOf_append, List.length_append, ih (by omega), recsOf_cons, recsOf_nil, List.append_nil]
      have := h.full k X[k] (by rw [List.getElem?_append_left hlt]; exact List.getElem?_eq_getElem hlt) (by simp; omega)
      omega
  have := this X.length (Nat.le_refl _)
  rwa [List.take_length] at this
theorem sixteen_append {st : St} {lg : Lg} {p n i : Nat} {X : List Sg} (h : Logs st lg 1 X p) (hs : Sixteen X) (hh : X ≠ [] → lg.hand = true) (s : ByteArray) (hn : n = (recsOf X).length + 1) : Sixteen (appX (begins lg) X n s i) := by
  by_cases hX : X = []
  · subst hX
    have hb : begins lg = true := by
      have hh0 : lg.hand = false := by
        cases hh : lg.hand with
        | false => rfl
        | true => exact absurd rfl (h.hand hh)
      unfold begins; rw [hh0]; rfl
    unfold appX
    rw [hb]
    subst hn
    refine ⟨?_, ?_, ?_⟩
    · intro j x hx
      cases j with
      | zero => simp at hx; subst hx; rfl
      | succ j => simp at hx
    · intro j x hx hj; simp at hj
    · intro x hx; simp at hx; subst hx; simp
  · obtain ⟨X0, y, rfl⟩ : ∃ X0 y, X = X0 ++ [y] := ⟨X.dropLast, X.getLast hX, (List.dropLast_concat_getLast hX).symm⟩
    have hb := begins_last h.segs
    rw [hh hX] at hb
    have ht := sixteen_total hs
    have hym := hs.most y (by simp)
    have hrl : (recsOf (X0 ++ [y])).length = 16 * X0.length + y.recs.length := by rw [recsOf_append, List.length_append, ht, recsOf_cons, recsOf_nil, List.append_nil]
    by_cases hy : y.recs.length = 16
    · have hbt : begins lg = true := by rw [hb]; simp [hy]
      unfold appX
      rw [hbt, if_pos rfl]
      refine ⟨?_, ?_, ?_⟩
      · intro j x hx
        rcases Nat.lt_or_ge j (X0 ++ [y]).length with hj | hj
        · rw [List.getElem?_append_left hj] at hx; exact hs.first j x hx
        · rw [List.getElem?_append_right hj] at hx
          have hj0 : j = (X0 ++ [y]).length := by
            rcases Nat.lt_or_ge (j - (X0 ++ [y]).length) 1 with h1 | h1
            · omega
            · rw [List.getElem?_eq_none (by simpa using h1)] at hx; cases hx
          rw [hj0, Nat.sub_self] at hx
          simp at hx; subst hx
          show n = 16 * j + 1
          rw [hj0, hn, hrl]; simp; omega
      · intro j x hx hj
        rw [List.length_append, List.length_singleton] at hj
        rw [List.getElem?_append_left (by omega)] at hx
        rcases Nat.lt_or_ge (j + 1) (X0 ++ [y]).length with h1 | h1
        · exact hs.full j x hx h1
        · have hj0 : j = X0.length := by simp at h1 hj; omega
          rw [hj0] at hx
          simp at hx; subst hx; exact hy
      · intro x hx
        rcases List.mem_append.1 hx with hx | hx
        · exact hs.most x hx
        · simp at hx; subst hx; simp
    · have hbf : begins lg = false := by rw [hb]; simp [hy]
      unfold appX
      rw [hbf, if_neg (by simp), List.getLast?_concat, List.dropLast_concat]
      refine ⟨?_, ?_, ?_⟩
      · intro j x hx
        rcases Nat.lt_or_ge j X0.length with hj | hj
        · rw [List.getElem?_append_left hj] at hx; exact hs.first j x (by rw [List.getElem?_append_left hj]; exact hx)
        · rw [List.getElem?_append_right hj] at hx
          have hj0 : j = X0.length := by
            rcases Nat.lt_or_ge (j - X0.length) 1 with h1 | h1
            · omega
            · rw [List.getElem?_eq_none (by simpa using h1)] at hx; cases hx
          rw [hj0, Nat.sub_self] at hx
          simp at hx; subst hx
          have := hs.first X0.length y (by simp)
          show y.first = 16 * j + 1
          rw [this, hj0]
      · intro j x hx hj
        rw [List.length_append, List.length_singleton] at hj
        rw [List.getElem?_append_left (by omega)] at hx
        exact hs.full j x (by rw [List.getElem?_append_left (by omega)]; exact hx) (by simp; omega)
      · intro x hx
        rcases List.mem_append.1 hx with hx | hx
        · exact hs.most x (by simp [hx])
        · simp at hx; subst hx
          show (y.recs ++ [s]).length ≤ 16
          rw [List.length_append, List.length_singleton]; omega

/-- Those ahead of a count go. -/
theorem keep_upto (c : Nat) (goes : Nat → Bool) : ∀ (l : List Seg) (j : Nat), (∀ i, j ≤ i → i < j + l.length → goes i = decide (i < c)) → keepJ goes j l = l.drop (c - j) ∧ goneJ goes j l = (l.take (c - j)).map Seg.name
  | [], j, _ => by simp [keepJ, goneJ]
  | x :: r, j, h => by
    have h0 := h j (Nat.le_refl _) (by simp)
    obtain ⟨i1, i2⟩ := keep_upto c goes r (j + 1) fun i h1 h2 => h i (by omega) (by simp at h2 ⊢; omega)
    unfold keepJ goneJ
    rw [i1, i2, h0]
    by_cases hc : j < c
    · obtain ⟨n, hn⟩ : ∃ n, c - j = n + 1 := ⟨c - j - 1, by omega⟩
      have e2 : c - (j + 1) = n := by omega
      simp [hc, hn, e2]
    · have e1 : c - j = 0 := by omega
      have e2 : c - (j + 1) = 0 := by omega
      simp [hc, e1, e2]
theorem Logs.drop {st : St} {lg : Lg} {p : Nat} {X : List Sg} (h : Logs st lg 1 X p) (hs : Sixteen X) (hu : Up st) (hnow : st.N = st.C.foldl appC st.L) (hX : X ≠ []) (b : Nat) :
    ∃ c st', c < X.length ∧ (c ≠ 0 → 16 * c < b) ∧ dropL lg st (b : Int) = ⟨{ lg with segs := (X.drop c).map Sg.seg }, st', 0⟩ ∧ Chain (16 * c + 1) (X.drop c) ∧ Reads st' (X.drop c) ∧ st'.F = st.F ∧ st'.C.length ≤ st.C.length ∧ recsOf (X.drop c) = (recsOf X).drop (16 * c) := by
  have hrise := h.hold.rise
  have hle := h.hold.le
  have hlen : 0 < X.length := List.length_pos_iff.2 hX
  let c := min (X.length - 1) ((b - 1) / 16)
  have hcdef : c = min (X.length - 1) ((b - 1) / 16) := rfl
  have hcl : c < X.length := by omega
  have hgo : ∀ i, i < X.length → dropGoes lg.segs (b : Int) i = decide (i < c) := by
    intro i hi
    unfold dropGoes
    have hsl : lg.segs.length = X.length := by rw [h.segs, List.length_map]
    have hget : lg.segs.getD i default = (X[i]).seg := by
      rw [List.getD_eq_getElem?_getD, h.segs, List.getElem?_map, List.getElem?_eq_getElem hi]; rfl
    rw [hget, seg_last, hsl]
    have hf := hs.first i X[i] (List.getElem?_eq_getElem hi)
    by_cases hl : i + 1 < X.length
    · have h16 := hs.full i X[i] (List.getElem?_eq_getElem hi) hl
      rw [hf, h16]
      have e1 : (i + 1 ≠ X.length) := by omega
      rw [decide_eq_true e1, Bool.true_and]
      exact decide_eq_decide.2 ⟨fun hh => by omega, fun hh => by omega⟩
    · have e1 : ¬ (i + 1 ≠ X.length) := by omega
      rw [decide_eq_false e1, Bool.false_and]
      exact (decide_eq_false (by omega)).symm
  obtain ⟨st1, t1, t2⟩ := takeL_up (dropGoes lg.segs (b : Int)) lg.segs 0 st hu (by rw [h.hold.N]; exact rising_of hrise hle) (fun s hs => by
    rw [h.segs] at hs
    obtain ⟨x, hx, rfl⟩ := List.mem_map.1 hs
    show (lookN st.N (nameL x.first)).isSome
    rw [h.hold.look hx]; rfl) (by rw [h.segs]; exact names_nodup hrise hle)
  obtain ⟨k1, k2⟩ := keep_upto c (dropGoes lg.segs (b : Int)) lg.segs 0 (fun i _ hi => hgo i (by rw [h.segs, List.length_map] at hi; omega))
  rw [Nat.sub_zero] at k1 k2
  rw [k1] at t1
  rw [k2] at t2
  have hdrop : lg.segs.drop c = (X.drop c).map Sg.seg := by rw [h.segs, List.map_drop]
  rw [hdrop] at t1
  have hkeep : ∀ x ∈ X.drop c, lookN st1.N (nameL x.first) = some x.file := by
    intro x hx
    rw [t2.N, look_fold ?_]
    · exact h.hold.look (List.mem_of_mem_drop hx)
    · intro hm
      rw [h.segs, ← List.map_take, List.map_map] at hm
      obtain ⟨z, hz, hzn⟩ := List.mem_map.1 hm
      have e := name_inj (hle z (List.mem_of_mem_take hz)) (hle x (List.mem_of_mem_drop hx)) hzn
      have hp := hrise
      rw [← List.take_append_drop c X, List.pairwise_append] at hp
      have := hp.2.2 z hz x hx
      omega
  have hreads : ∀ st', st'.F = st.F → st'.dead = false → st'.N = st1.N → Reads st' (X.drop c) := by
    intro st' hF hdd hN x hx
    have hl := hkeep x hx
    rw [← hN] at hl
    have hxX := List.mem_of_mem_drop hx
    refine ⟨?_, [], ?_⟩
    · unfold readE; rw [if_neg (by simp [hdd]), hl]; rfl
    · unfold readA
      rw [if_neg (by simp [hdd]), hl]
      simp only [List.getD_eq_getElem?_getD, hF, h.hold.file x hxX, Option.getD_some, List.append_nil]
  have hrl : (recsOf (X.take c)).length = 16 * c := by
    have hsplit : X = X.take (X.length - 1) ++ [X[X.length - 1]] := by
      conv => lhs; rw [← List.take_append_drop (X.length - 1) X]
      rw [List.drop_eq_getElem_cons (by omega), show X.length - 1 + 1 = X.length by omega, List.drop_length]
    have : ∀ k, k ≤ c → (recsOf (X.take k)).length = 16 * k := by
      intro k
      induction k with
      | zero => intro _; rfl
      | succ k ih =>
        intro hk
        have hlt : k < X.length := by omega
        rw [List.take_succ_eq_append_getElem hlt, recsOf_append, List.length_append, ih (by omega), recsOf_cons, recsOf_nil, List.append_nil]
        have := hs.full k X[k] (List.getElem?_eq_getElem hlt) (by omega)
        omega
    exact this c (Nat.le_refl _)
  have hrec : recsOf (X.drop c) = (recsOf X).drop (16 * c) := by
    have : recsOf X = recsOf (X.take c) ++ recsOf (X.drop c) := by rw [← recsOf_append, List.take_append_drop]
    rw [this, ← hrl, List.drop_left]
  have hchain : Chain (16 * c + 1) (X.drop c) := by
    have hc := h.hold.chain
    rw [← List.take_append_drop c X, chain_append, hrl] at hc
    rw [Nat.add_comm]; exact hc.2
  have hne : lg.segs ≠ [] := by rw [h.segs]; intro e; exact hX (List.map_eq_nil_iff.1 e)
  obtain ⟨s1, s2⟩ := settle_up t2.up (t2.now hnow)
  by_cases hc0 : c = 0
  · have hst : st1 = st := by
      rw [hc0] at t2
      obtain ⟨u1, u2, u3, u4, u5, u6⟩ := t2
      obtain ⟨v1, v2⟩ := u1
      obtain ⟨w1, w2⟩ := hu
      cases st1; cases st
      simp only [List.take_zero, List.foldl_nil, List.map_nil, List.append_nil] at *
      simp only [*]
    refine ⟨c, st1, hcl, fun h0 => absurd hc0 h0, ?_, hchain, hreads st1 t2.F t2.up.1 rfl, t2.F, by rw [hst]; exact Nat.le_refl _, hrec⟩
    unfold dropL
    rw [if_neg hne]
    unfold tidyL
    rw [t1]
    simp only
    rw [if_pos]
    exact .inr (by rw [h.segs, List.length_map, List.length_map, List.length_drop, hc0]; rfl)
  · refine ⟨c, { st1 with L := st1.N, C := [] }, hcl, fun _ => by omega, ?_, hchain, hreads _ t2.F t2.up.1 rfl, t2.F, Nat.zero_le _, hrec⟩
    unfold dropL
    rw [if_neg hne]
    unfold tidyL
    rw [t1]
    simp only
    rw [if_neg, s1, s2]
    rintro (hh | hh)
    · exact hh rfl
    · rw [h.segs, List.length_map, List.length_map, List.length_drop] at hh; omega

/-! ### the walk -/
def bt (k : Nat) : ByteArray := ⟨#[UInt8.ofNat k]⟩
def rsK (k : Nat) : List ByteArray := (List.range k).map fun i => bt (i + 1)
theorem rsK_len (k : Nat) : (rsK k).length = k := by unfold rsK; simp
theorem rsK_snoc (k : Nat) : rsK (k + 1) = rsK k ++ [bt (k + 1)] := by unfold rsK; rw [List.range_succ, List.map_append]; rfl
theorem rsK_at (k j : Nat) (h : j < k) : (rsK k)[j]? = some (bt (j + 1)) := by unfold rsK; simp [h]
theorem bt_size (k : Nat) : (bt k).size = 1 := rfl
theorem rsK_small (k : Nat) : ∀ r ∈ rsK k, r.size ≤ 1000 := fun r hr => by
  obtain ⟨i, _, rfl⟩ := List.mem_map.1 hr; rw [bt_size]; omega
theorem conv_byte (w : World) (b c : Nat) (x : Int) (hx : x = (c : Int)) (hc : c < 256) (hb : w.heap[b]? = some (.cells #[.int .u8 x] 5 (0, 0))) :
    (convert 42 9 (.slice (some ⟨b, 0, none⟩) 1 1)).run Tryz.prog w = .ok (.string (bt c)) w := by
  subst hx
  refine run_convert_bytes_back w 42 9 5 ⟨b, 0, none⟩ 1 [UInt8.ofNat c] Tryz.underlying42 Tryz.underlying5 Tryz.underlying9 ?_
  intro j hj
  obtain rfl : j = 0 := by simp at hj; exact hj
  rw [show (⟨b, 0, none⟩ : Addr).add 0 = ⟨b, 0, none⟩ from rfl, Lib.cell_of_heap hb]
  simp
  omega

theorem sixteen_grew {X Y : List Sg} (h : GrewS X Y) (hs : Sixteen X) : Sixteen Y := by
  refine ⟨fun i y hy => ?_, fun i y hy hi => ?_, fun y hy => ?_⟩
  · obtain ⟨x, hx, g1, _⟩ := h.at hy
    rw [g1]; exact hs.first i x hx
  · obtain ⟨x, hx, _, g2, _⟩ := h.at hy
    rw [g2]; exact hs.full i x hx (by rw [← h.len]; exact hi)
  · obtain ⟨i, hi⟩ := List.mem_iff_getElem?.1 hy
    obtain ⟨x, hx, _, g2, _⟩ := h.at hi
    rw [g2]; exact hs.most x (List.mem_of_getElem? hx)
/-- A log with the records 1 to k, in segments of sixteen. -/
def Dr (B : Nat) (W : World) (pd pl k : Nat) (w : World) : Prop := ∃ st lg X p n, Going B W pd pl 1048576 (rsK k) (fun _ => False) st lg X p n w ∧ Sixteen X ∧ (X ≠ [] → lg.hand = true)
theorem Dr.below {B : Nat} {W w : World} {pd pl k : Nat} (h : Dr B W pd pl k w) : Below W.heap.size W w := by
  obtain ⟨_, _, _, _, _, h, _⟩ := h; exact h.own.below
theorem Dr.grow {B : Nat} {W w w' : World} {pd pl k : Nat} (h : Dr B W pd pl k w) (hu : Upon (fun _ => False) w w') (hB : B ≤ W.heap.size) : Dr B W pd pl k w' := by
  obtain ⟨st, lg, X, p, n, h, h2, h3⟩ := h
  exact ⟨st, lg, X, p, n, { h with own := h.own.grow hu hB }, h2, h3⟩
theorem Dr.append {B : Nat} {W w : World} {pd pl k : Nat} (h : Dr B W pd pl k w) (hk : k < 200) (hX : k < 1000) :
    Calls Tryz.prog 12 #[.pointer (some ⟨pl, 0, none⟩), .string (bt (k + 1))] w fun e w' => e = .returned (.tuple #[.int .i64 ((k : Int) + 1), .int .i64 0]) ∧ Dr B W pd pl (k + 1) w' := by
  obtain ⟨st, lg, X, p, n, h, h2, h3⟩ := h
  have hx := h.X
  have hlen := rsK_len k
  rw [hlen] at hx
  have hXl : X.length < 64 := by
    rcases Nat.eq_zero_or_pos X.length with h0 | h0
    · omega
    · have hf := h2.first (X.length - 1) X[X.length - 1] (List.getElem?_eq_getElem (by omega))
      have hg := chain_ge h.logs.hold.chain X[X.length - 1] (List.getElem_mem _)
      rw [h.recs, hlen] at hg
      omega
  have hroom : (((frs (rsK k)).length + lenF (bt (k + 1)) : Nat) : Int) ≤ 1048576 := by
    have r1 := frs_le _ (rsK_small k)
    have r2 := lenF_le (bt (k + 1)) (by rw [bt_size]; omega)
    rw [hlen] at r1; omega
  have hc := h.append (bt (k + 1)) (by rw [bt_size]; omega) hroom hXl (by rw [hlen]; exact hX)
  rw [hlen] at hc
  have hs := sixteen_append (i := st.F.length) (n := k + 1) h.logs h2 h3 (bt (k + 1)) (by rw [h.recs, hlen])
  exact hc.mono fun e w' ⟨he, ⟨st', lg', X', hX', hg, hh, _⟩, _⟩ => ⟨he, st', lg', X', p, n + 1, by rw [rsK_snoc]; exact hg, by rw [hX']; exact hs, fun _ => hh⟩
theorem Dr.sync {B : Nat} {W w : World} {pd pl k : Nat} (h : Dr B W pd pl k w) :
    Calls Tryz.prog 13 #[.pointer (some ⟨pl, 0, none⟩)] w fun e w' => e = .returned (.int .i64 0) ∧ ∃ st lg X p n, Going B W pd pl 1048576 (rsK k) (fun _ => False) st lg X p n w' ∧ Sixteen X ∧ (X ≠ [] → lg.hand = true) ∧ Sure st X p := by
  obtain ⟨st, lg, X, p, n, h, h2, h3⟩ := h
  exact h.sync.mono fun e w' ⟨he, X', hg, hsu, hgr, _, hh, _⟩ => ⟨he, _, _, X', _, n, hg, sixteen_grew hgr h2, fun hn => by rw [hh]; exact h3 (fun e => hn (List.eq_nil_of_length_eq_zero (by rw [hgr.len, e]; rfl))), hsu⟩

/-- Behind DropBefore. -/
structure Dp (B : Nat) (W : World) (pd pl k b c : Nat) (st : St) (lg : Lg) (n : Nat) (w : World) : Prop where
  own : LgO B W pd pl st lg (fun _ => False) w
  lim : Lim st n
  first : lg.first = 16 * c + 1
  last : lg.last = k
  some : 16 * c < k
  low : c ≠ 0 → 16 * c < b
  reads : ∀ i, 16 * c + 1 ≤ i → i ≤ k → readL st (i : Int) lg.segs = (bt i, 0)
  none : readL st ((16 * c : Nat) : Int) lg.segs = (⟨#[]⟩, 12)
theorem Dr.drop {B : Nat} {W w : World} {pd pl k p n : Nat} {st : St} {lg : Lg} {X : List Sg} (h : Going B W pd pl 1048576 (rsK k) (fun _ => False) st lg X p n w) (h2 : Sixteen X) (hk : 1 ≤ k) (b : Nat) (hb : b < 1000) :
    Calls Tryz.prog 19 #[.pointer (some ⟨pl, 0, none⟩), .int .i64 (b : Int)] w fun e w' => e = .returned (.int .i64 0) ∧ ∃ c st' lg', Dp B W pd pl k b c st' lg' n w' := by
  have hx := h.X
  have hlen := rsK_len k
  rw [hlen] at hx
  have hX : X ≠ [] := by
    intro e
    have := h.recs
    rw [e] at this
    have := congrArg List.length this
    rw [hlen] at this
    simp [recsOf] at this
    omega
  obtain ⟨c, st', c1, c2, c3, c4, c5, c6, c7, c8⟩ := h.logs.drop h2 h.up h.own.fine.now hX b
  have hc := h.own.drop (b : Int) ⟨by omega, by omega⟩ h.lim (h.logs.slim (by rw [h.recs, hlen]; have := h.few; rw [hlen] at this; omega))
  rw [c3] at hc
  have hfew := h.few
  rw [hlen] at hfew
  have hne : X.drop c ≠ [] := by intro e; have := congrArg List.length e; rw [List.length_drop] at this; simp at this; omega
  have hrl : (recsOf (X.drop c)).length = k - 16 * c := by rw [c8, List.length_drop, h.recs, hlen]
  have hpos : 0 < (recsOf (X.drop c)).length := by
    have := chain_len c4
    have : 0 < (X.drop c).length := List.length_pos_iff.2 hne
    omega
  have hsm : ∀ x ∈ X.drop c, ∀ r ∈ x.recs, r.size ≤ 65536 := fun x hx => h.logs.hold.small' x (List.mem_of_mem_drop hx)
  refine hc.mono fun e w' ⟨he, ho, _⟩ => ⟨he, c, st', _, ho, h.lim.of c6 (Nat.le_trans c7 h.lim.chs), ?_, hx.2.2, by omega, c2, ?_, ?_⟩
  · unfold Lg.first
    simp only
    obtain ⟨y, r, hy⟩ : ∃ y r, X.drop c = y :: r := by
      cases hd : X.drop c with
      | nil => exact absurd hd hne
      | cons y r => exact ⟨y, r, rfl⟩
    rw [hy] at c4 ⊢
    exact c4.1
  · intro i hi1 hi2
    have := read_chain c4 hsm c5 (i - (16 * c + 1)) (bt i) (by
      rw [c8, List.getElem?_drop, h.recs, rsK_at k _ (by omega)]
      congr 2; omega)
    rw [show 16 * c + 1 + (i - (16 * c + 1)) = i by omega] at this
    exact this
  · exact read_none c4 (.inl (by omega))

set_option maxHeartbeats 8000000 in
set_option maxRecDepth 100000 in
theorem drops_any (W : World) (n b : Int) (hn : -9223372036854775808 ≤ n ∧ n ≤ 9223372036854775807) (hb : -9223372036854775808 ≤ b ∧ b ≤ 9223372036854775807) (hE : Env W.heap.size W) :
    Calls Tryz.prog 5 #[.int .i64 n, .int .i64 b] W (Yes W) := by
  have HW := Lib.hid (works_true W.heap.size W hE)
  have HE := Lib.hid hE
  clear hE
  have q1 : IntKind.u64.wrap n = n % 18446744073709551616 := by rw [IntKind.wrap_u64]
  have q2 : IntKind.u64.wrap b = b % 18446744073709551616 := by rw [IntKind.wrap_u64]
  have q3 : 0 ≤ n % 18446744073709551616 := Int.emod_nonneg _ (by decide)
  have q4 : 0 ≤ b % 18446744073709551616 := Int.emod_nonneg _ (by decide)
  obtain ⟨N, hN⟩ : ∃ m : Nat, 1 + n % 18446744073709551616 % 80 = (m : Int) := ⟨(1 + n % 18446744073709551616 % 80).toNat, by omega⟩
  obtain ⟨D, hD⟩ : ∃ m : Nat, b % 18446744073709551616 % 90 = (m : Int) := ⟨(b % 18446744073709551616 % 90).toNat, by omega⟩
  have hN1 : 1 ≤ N := by omega
  have hN2 : N ≤ 80 := by omega
  have hD2 : D < 90 := by omega
  have HN := Lib.hid hN
  have HD := Lib.hid hD
  clear hN hD
  go_enter Tryz.func5, Tryz.ntmps5
  go_wp2_with fail
  refine HW.out.mono ?_
  rintro e w1 ⟨rfl, hb1⟩
  have HB1 := Lib.hid hb1
  clear hb1 HW
  go_wp2_with fail
  rw [HN.out, HD.out]
  clear q1 q2 q3 q4 HN HD hn hb
  refine (new_any 1048576 ⟨by omega, by omega⟩ w1).mono ?_
  intro e w2 hm
  obtain ⟨pd, rfl, hd2, -⟩ := DskO.made (R := fun _ => False) HE.out HB1.out (fun _ h => h.elim) hm
  have H2 := Lib.hid hd2
  clear hm hd2 HB1
  go_wp2_with fail
  refine (open_new H2.out).mono ?_
  rintro e w3 ⟨pl, rfl, hg3, -⟩
  have H3 := Lib.hid (show Dr W.heap.size W pd pl 0 w3 from ⟨_, _, _, _, _, hg3, sixteen_nil, fun h => absurd rfl h⟩)
  clear hg3 H2
  go_upto_block 0 with fail
  go_cut [8] (fun i wr => Dr W.heap.size W pd pl N wr)
  case first =>
    go_wp2_with fail
    go_loopw [8] (fun i wr => ∃ k : Nat, k ≤ N ∧ i = .int .i64 ((k : Int) + 1) ∧ Dr W.heap.size W pd pl k wr) (fun i _ => N + 1 - (intOf i).toNat)
    case atStart => exact ⟨0, Nat.zero_le _, rfl, H3.out⟩
    case round =>
      obtain ⟨k, hk, rfl, hg⟩ := hrel
      clear H3
      have HG := Lib.hid hg
      clear hg
      by_cases hkN : k < N
      · have hd1 : decide ((k : Int) + 1 ≤ (N : Int)) = true := decide_eq_true (by omega)
        have hu8 : IntKind.u8.wrap ((k : Int) + 1) = (k : Int) + 1 := by rw [IntKind.wrap_u8]; omega
        have c1 := conv_byte (wr.alloc (.cells #[.int .u8 ((k : Int) + 1)] 5 (0, 0))) wr.heap.size (k + 1) ((k : Int) + 1) (by omega) (by omega) (cell_new wr _)
        have c2 := conv_byte (wr.alloc (.cells #[.int .u8 ((k : Int) + 1)] 5 (0, 0))).drew wr.heap.size (k + 1) ((k : Int) + 1) (by omega) (by omega) (cell_new wr _)
        have HAP := Lib.hid (fun w' (hu : Upon (fun _ => False) wr w') => Dr.append (HG.out.grow hu (Nat.le_refl _)) (by omega) (by omega))
        clear HG
        go_wp2_with fail
        refine (HAP.out _ (by repeat (first | exact Upon.refl _ _ | refine Upon.drew ?_ | refine Upon.alloc ?_ _))).mono ?_
        rintro e w5 ⟨rfl, hg5⟩
        have HG5 := Lib.hid hg5
        clear hg5 HAP c1 c2 hu8
        go_wp2_with fail
        go_roundw
        case rel => exact ⟨k + 1, by omega, by go_num, HG5.out⟩
        case measure => simp [intOf]; omega
      · have hd1 : decide ((k : Int) + 1 ≤ (N : Int)) = false := decide_eq_false (by omega)
        obtain rfl : k = N := by omega
        go_wp2_with fail
        go_meet
        exact HG.out
  have HS := Lib.hid hcut.sync
  clear hcut H3
  go_wp2_with fail
  refine HS.out.mono ?_
  rintro e w5 ⟨rfl, st, lg, X, p, n5, hg, hX, hh, -⟩
  have HDP := Lib.hid (Dr.drop hg hX hN1 D (by omega))
  clear hg hX hh HS
  go_wp2_with fail
  refine HDP.out.mono ?_
  rintro e w6 ⟨rfl, c, st', lg', hdp⟩
  have H6 := Lib.hid hdp
  have HFI := hdp.own.first
  have HLA := hdp.own.last
  rw [hdp.first] at HFI
  rw [hdp.last] at HLA
  have f1 := hdp.some
  have f2 := hdp.low
  have hfe : ((16 * c + 1 : Nat) : Int) = 16 * (c : Int) + 1 := by omega
  rw [hfe] at HFI
  replace HFI := Lib.hid HFI
  replace HLA := Lib.hid HLA
  clear hdp HDP hfe
  obtain ⟨M, hM⟩ : ∃ M : Int, max 1 (D : Int) = M := ⟨_, rfl⟩
  have hM1 : 16 * (c : Int) + 1 ≤ M := by rw [← hM]; omega
  have hM2 : ¬ (M < 16 * (c : Int) + 1) := by omega
  have hd1 : decide (M < 16 * (c : Int) + 1) = false := decide_eq_false hM2
  have hd2 : decide ((N : Int) < 16 * (c : Int) + 1) = false := decide_eq_false (by omega)
  have hd2' : ¬ ((N : Int) < 16 * (c : Int) + 1) := by omega
  have ht1 : (16 * (c : Int) + 1).tmod 16 = 1 := by rw [Int.tmod_eq_emod_of_nonneg (by omega)]; omega
  have ht2 : (16 * (c : Int) + 1) % 16 = 1 := by omega
  go_wp2_with fail
  refine HFI.out.mono ?_
  rintro e w7 ⟨rfl, rfl⟩
  go_wp2_with fail
  refine HFI.out.mono ?_
  rintro e w7 ⟨rfl, rfl⟩
  go_wp2_with fail
  refine HFI.out.mono ?_
  rintro e w7 ⟨rfl, rfl⟩
  go_wp2_with fail
  refine HLA.out.mono ?_
  rintro e w7 ⟨rfl, rfl⟩
  have HK1 := Lib.hid f1
  clear HLA
  go_wp2_with fail
  refine HFI.out.mono ?_
  rintro e w7 ⟨rfl, rfl⟩
  clear HFI hM hM1 hM2 hd1 hd2 hd2' ht1 ht2 f1 f2
  go_wp2_with fail
  go_loopw [9] (fun i wr => ∃ j : Nat, j + 16 * c ≤ N ∧ i = .int .i64 (16 * (c : Int) + 1 + (j : Int)) ∧ Dp W.heap.size W pd pl N D c st' lg' n5 wr) (fun i _ => N + 1 - (intOf i).toNat)
  case atStart => exact ⟨0, by have := HK1.out; omega, by simp, H6.out⟩
  case round =>
    obtain ⟨j, hj, rfl, hg⟩ := hrel
    clear H6
    have HG := Lib.hid hg
    have HQ := Lib.hid hg.own.below
    clear hg
    obtain ⟨k, hk⟩ : ∃ k, k = 16 * c + j := ⟨_, rfl⟩
    have hki : 16 * (c : Int) + 1 + (j : Int) = (k : Int) + 1 := by omega
    rw [hki]
    have hkN : k ≤ N := by omega
    have HJ := Lib.hid hk
    have HKI := Lib.hid hki
    clear hk hki hj
    by_cases hlt : k < N
    · have hd1 : decide ((k : Int) + 1 ≤ (N : Int)) = true := decide_eq_true (by omega)
      have hu8 : IntKind.u8.wrap ((k : Int) + 1) = (k : Int) + 1 := by rw [IntKind.wrap_u8]; omega
      have hrd := HG.out.own.read ((k : Int) + 1) ⟨by omega, by omega⟩ HG.out.lim
      have hrr := HG.out.reads (k + 1) (by have := HJ.out; omega) (by omega)
      rw [show ((k + 1 : Nat) : Int) = (k : Int) + 1 by omega] at hrr
      rw [hrr] at hrd
      have HRD := Lib.hid hrd
      clear hrd hrr
      go_wp2_with fail
      refine HRD.out.mono ?_
      rintro e w8 ⟨rfl, ho8, -⟩
      have HG8 := Lib.hid ({ HG.out with own := ho8 } : Dp W.heap.size W pd pl N D c st' lg' n5 w8)
      have HGR := Lib.hid (fun w' (hu : Upon (fun _ => False) w8 w') => ({ HG8.out with own := HG8.out.own.grow hu (Nat.le_refl _) } : Dp W.heap.size W pd pl N D c st' lg' n5 w'))
      have c1 := conv_byte (w8.alloc (.cells #[.int .u8 ((k : Int) + 1)] 5 (0, 0))) w8.heap.size (k + 1) ((k : Int) + 1) (by omega) (by omega) (cell_new w8 _)
      have c2 := conv_byte (w8.alloc (.cells #[.int .u8 ((k : Int) + 1)] 5 (0, 0))).drew w8.heap.size (k + 1) ((k : Int) + 1) (by omega) (by omega) (cell_new w8 _)
      clear ho8 HRD HG HG8
      go_wp2_with fail
      go_roundw
      case rel => exact ⟨j + 1, by have := HJ.out; omega, by have := HJ.out; congr 1; push_cast; omega, HGR.out _ (by repeat (first | exact Upon.refl _ _ | refine Upon.drew ?_ | refine Upon.alloc ?_ _))⟩
      case measure => simp [intOf]; omega
    · have hd1 : decide ((k : Int) + 1 ≤ (N : Int)) = false := decide_eq_false (by omega)
      have HFI := HG.out.own.first
      have HRD := HG.out.own.read ((16 * c : Nat) : Int) ⟨by omega, by have := HK1.out; omega⟩ HG.out.lim
      rw [HG.out.first] at HFI
      rw [HG.out.none] at HRD
      have hfe : ((16 * c + 1 : Nat) : Int) = 16 * (c : Int) + 1 := by omega
      rw [hfe] at HFI
      rw [show ((16 * c : Nat) : Int) = 16 * (c : Int) by omega] at HRD
      replace HFI := Lib.hid HFI
      replace HRD := Lib.hid HRD
      have hck := HK1.out
      clear HG hfe
      go_wp2_with fail
      refine HFI.out.mono ?_
      rintro e w7 ⟨rfl, rfl⟩
      clear HFI
      go_wp2_with fail
      refine HRD.out.mono ?_
      rintro e w8 ⟨rfl, ho, -⟩
      have HQ := Lib.hid ho.below
      clear ho HRD
      go_wp2
      go_ret
      exact ⟨rfl, HQ.out⟩
theorem drops_true (n b : Int) (l0 : -9223372036854775808 ≤ n) (u0 : n ≤ 9223372036854775807) (l1 : -9223372036854775808 ≤ b) (u1 : b ≤ 9223372036854775807) (W : World) (hE : Env W.heap.size W) :
    Calls Tryz.prog 5 #[.int .i64 n, .int .i64 b] W fun e W' => e = .returned (.bool true) ∧ Below W.heap.size W W' :=
  drops_any W n b ⟨l0, u0⟩ ⟨l1, u1⟩ hE
end Wal
end Go.Proofs.YtlgjbdfnhaoloaaGreatDoor
