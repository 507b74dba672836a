/- The law DiskRoom (layer 4), walked: no more is on the disk than it has room for; what is refused changes nothing. -/
import Derived.Test.YtfpphahdbhelcaaDiskOpen
import Derived.Laws.BytesString
import Derived.Laws.IdiomStrings
import Derived.Laws.MakeOwn
import Derived.Laws.OwnMore
namespace Go.Proofs.Ytfpphahdbhelcaa
open Go.RowKit
namespace Dsk
open Go.Maps

/-! ### how many bytes are there behind an append -/
theorem sum_ins (g : Str × Nat → Nat) (x : Str × Nat) : ∀ N : Nms, ((insN x N).map g).sum = g x + (N.map g).sum
  | [] => by simp [insN]
  | y :: r => by
    unfold insN
    split
    · simp
    · simp only [List.map_cons, List.sum_cons, sum_ins g x r]; omega

theorem used_none {st : St} {k t : Str} (hf : Fine st) (hl : lookN st.N k = none) : used (addF st k t) = used st + t.length := by
  have e : addF st k t = { st with F := st.F ++ [⟨t, 0⟩], N := putN st.N k st.F.length, C := st.C ++ [.put k st.F.length] } := by unfold addF; rw [hl]
  rw [e]
  unfold used putN
  simp only
  rw [del_none hl, sum_ins]
  have h1 : ((st.F ++ [(⟨t, 0⟩ : FileS)]).getD st.F.length default).s.length = t.length := by rw [getD_snoc_eq]
  have h2 : (st.N.map fun p => ((st.F ++ [(⟨t, 0⟩ : FileS)]).getD p.2 default).s.length) = st.N.map fun p => (st.F.getD p.2 default).s.length := by
    apply List.map_congr_left
    intro p hp
    rw [getD_snoc_lt (hf.nmN.ins p hp)]
  rw [h1, h2]
  omega
theorem getD_modify (F : List FileS) (i j : Nat) (q : FileS → FileS) (hi : i < F.length) : (F.modify i q).getD j default = if j = i then q (F.getD i default) else F.getD j default := by
  simp only [List.getD_eq_getElem?_getD, List.getElem?_modify]
  by_cases e : i = j
  · subst e; simp [hi]
  · have e' : ¬ j = i := fun h => e h.symm
    simp [e, e']
theorem sum_mod (F : List FileS) (i : Nat) (t : Str) (hi : i < F.length) : ∀ N : Nms, (N.map (·.2)).Nodup → (∃ k, (k, i) ∈ N) →
    (N.map fun p => ((F.modify i fun f => { f with s := f.s ++ t }).getD p.2 default).s.length).sum = (N.map fun p => (F.getD p.2 default).s.length).sum + t.length
  | [], _, h => by obtain ⟨k, h⟩ := h; cases h
  | p :: r, hn, h => by
    simp only [List.map_cons, List.sum_cons]
    have hn' : (r.map (·.2)).Nodup := (List.nodup_cons.1 hn).2
    have hp := (List.nodup_cons.1 hn).1
    by_cases e : p.2 = i
    · have hr : (r.map fun p => ((F.modify i fun f => { f with s := f.s ++ t }).getD p.2 default).s.length) = r.map fun p => (F.getD p.2 default).s.length := by
        apply List.map_congr_left
        intro q hq
        rw [getD_modify F i q.2 _ hi, if_neg]
        intro e'
        exact hp (by show p.2 ∈ r.map (·.2); rw [e, ← e']; exact List.mem_map.2 ⟨q, hq, rfl⟩)
      rw [hr, getD_modify F i p.2 _ hi, if_pos e, e]
      simp only [List.length_append]
      omega
    · obtain ⟨k, hk⟩ := h
      have hk' : (k, i) ∈ r := by
        rcases List.mem_cons.1 hk with h | h
        · rw [← h] at e; exact absurd rfl e
        · exact h
      rw [sum_mod F i t hi r hn' ⟨k, hk'⟩, getD_modify F i p.2 _ hi, if_neg e]
      omega
theorem used_some {st : St} {k t : Str} {i : Nat} (hf : Fine st) (hn : (st.N.map (·.2)).Nodup) (hl : lookN st.N k = some i) : used (addF st k t) = used st + t.length := by
  rw [addF_some hl]
  exact sum_mod st.F i t (hf.nmN.ins _ (mem_of_look hl)) st.N hn ⟨k, mem_of_look hl⟩

/-- What holds behind k rounds. -/
structure RInv (R k : Nat) (st : St) : Prop where
  fine : Fine st
  dead : st.dead = false
  left : st.left = -1
  room : st.room = (R : Int)
  nodup : (st.N.map (·.2)).Nodup
  len : st.N.length ≤ k
  file : ∀ f ∈ st.F, f.s.length ≤ 100 * k
  chs : st.C.length ≤ k
  fit : used st ≤ R

theorem rinv_new (R : Nat) : RInv R 0 (new (R : Int)) := ⟨fine_new _, rfl, rfl, rfl, by simp [new], by simp [new], by simp [new], by simp [new], by simp [used, new]⟩
theorem RInv.wr {R k : Nat} {st : St} (h : RInv R k st) : wrB st = true ∧ wrS st = st := by
  have e1 := h.dead
  have e2 := h.left
  constructor
  · simp [wrB, e1, e2]
  · unfold wrS; rw [e1, e2]; simp
theorem RInv.small {R k : Nat} {st : St} (h : RInv R k st) (hR : R < 500) (hk : k ≤ 50) {z : Nat} (hz : z ≤ 100) : Small st z :=
  ⟨by have := h.fit; omega, fun f hf => by have := h.file f hf; omega, by have := h.chs; omega, by omega⟩
theorem RInv.no {R k : Nat} {st : St} (h : RInv R k st) : RInv R (k + 1) st :=
  { h with len := by have := h.len; omega, file := fun f hf => by have := h.file f hf; omega, chs := by have := h.chs; omega }
theorem RInv.yes {R k : Nat} {st : St} (h : RInv R k st) {nm t : Str} (hf : Fine (addF st nm t)) (ht : t.length ≤ 100) (hu : used st + t.length ≤ R) : RInv R (k + 1) (addF st nm t) ∧ used (addF st nm t) = used st + t.length := by
  cases hl : lookN st.N nm with
  | some i =>
    have hus := used_some (t := t) h.fine h.nodup hl
    rw [addF_some hl] at hf ⊢
    rw [addF_some hl] at hus
    refine ⟨⟨hf, h.dead, h.left, h.room, h.nodup, by have := h.len; simp only; omega, ?_, by have := h.chs; simp only; omega, by rw [hus]; exact hu⟩, hus⟩
    intro f hf'
    obtain ⟨j, hj, rfl⟩ := List.mem_iff_getElem.1 hf'
    rw [List.getElem_modify]
    have hm := h.file _ (List.getElem_mem (l := st.F) (by simpa using hj : j < st.F.length))
    split
    · simp only [List.length_append]; omega
    · omega
  | none =>
    have hus := used_none (t := t) h.fine hl
    have e : addF st nm t = { st with F := st.F ++ [⟨t, 0⟩], N := putN st.N nm st.F.length, C := st.C ++ [.put nm st.F.length] } := by unfold addF; rw [hl]
    rw [e] at hf hus ⊢
    refine ⟨⟨hf, h.dead, h.left, h.room, ?_, ?_, ?_, ?_, by rw [hus]; exact hu⟩, hus⟩
    · simp only
      unfold putN
      rw [del_none hl]
      have : ∀ N : Nms, (N.map (·.2)).Nodup → (∀ p ∈ N, p.2 < st.F.length) → ((insN (nm, st.F.length) N).map (·.2)).Nodup := by
        intro N
        induction N with
        | nil => intro _ _; simp [insN]
        | cons y r ih =>
          intro hn hi
          unfold insN
          have hn' := (List.nodup_cons.1 hn)
          split
          · rw [List.map_cons, List.nodup_cons]
            refine ⟨fun hm => ?_, hn⟩
            obtain ⟨q, hq, e⟩ := List.mem_map.1 hm
            have := hi q hq
            simp only at e
            omega
          · rw [List.map_cons, List.nodup_cons]
            refine ⟨fun hm => ?_, ih hn'.2 fun p hp => hi p (List.mem_cons_of_mem _ hp)⟩
            obtain ⟨q, hq, e⟩ := List.mem_map.1 hm
            rcases mem_insN.1 hq with e2 | hq
            · rw [e2] at e
              have := hi y List.mem_cons_self
              simp only at e
              omega
            · exact hn'.1 (List.mem_map.2 ⟨q, hq, e⟩)
      exact this st.N h.nodup fun p hp => h.fine.nmN.ins p hp
    · have := len_put_le st.N nm st.F.length
      have := h.len
      simp only
      omega
    · intro f hf'
      rcases List.mem_append.1 hf' with hf' | hf'
      · have := h.file f hf'; omega
      · simp at hf'; subst hf'; simp only; omega
    · have := h.chs
      simp only [List.length_append, List.length_cons, List.length_nil]
      omega

/-- One round. -/
theorem rinv_step {R k : Nat} {st : St} (h : RInv R k st) (hk : k < 50) {nm t : Str} (hn : isName nm = true) (ht : t.length ≤ 100) (hf : Fine (appS st nm t)) :
    (used st + t.length ≤ R → appE st nm t = 0 ∧ RInv R (k + 1) (appS st nm t) ∧ used (appS st nm t) = used st + t.length) ∧ (¬ used st + t.length ≤ R → appE st nm t = 4 ∧ RInv R (k + 1) (appS st nm t) ∧ used (appS st nm t) = used st) := by
  obtain ⟨w1, w2⟩ := h.wr
  have h64 : ¬ st.N.length = 64 := by have := h.len; omega
  constructor
  · intro hu
    have hfull : full st nm t = false := by
      unfold full
      rw [h.room, decide_eq_false (by omega : ¬ (R : Int) < ((used st + t.length : Nat) : Int))]
      simp [h64]
    have e1 : appE st nm t = 0 := by simp [appE, w1, w2, hn, hfull]
    have e2 : appS st nm t = addF st nm t := by simp [appS, w1, w2, hn, hfull]
    rw [e2] at hf ⊢
    exact ⟨e1, h.yes hf ht hu⟩
  · intro hu
    have hfull : full st nm t = true := by
      unfold full
      rw [h.room, decide_eq_true (by omega : (R : Int) < ((used st + t.length : Nat) : Int))]
      rfl
    have e1 : appE st nm t = 4 := by simp [appE, w1, w2, hn, hfull]
    have e2 : appS st nm t = st := by simp [appS, w2, hfull]
    rw [e2]
    exact ⟨e1, h.no, rfl⟩

def zeros (n : Nat) : ByteArray := ⟨(List.replicate n (0 : UInt8)).toArray⟩
theorem zeros_len (n : Nat) : (zeros n).size = n ∧ (zeros n).data.toList.length = n := by simp [zeros, ByteArray.size]

theorem conv_name (w : World) (b c : Nat) (hc : c < 256) (hb : w.heap[b]? = some (.cells #[.int .u8 (c : Int)] 5 (0, 0))) :
    (convert 54 9 (.slice (some ⟨b, 0, none⟩) 1 1)).run Try.prog w = .ok (.string ⟨#[UInt8.ofNat c]⟩) w := by
  refine run_convert_bytes_back w 54 9 5 ⟨b, 0, none⟩ 1 [UInt8.ofNat c] Try.underlying54 Try.underlying5 Try.underlying9 ?_
  intro j hj
  obtain rfl : j = 0 := by simp at hj; exact hj
  rw [show (⟨b, 0, none⟩ : Addr).add 0 = ⟨b, 0, none⟩ from rfl, Lib.cell_of_heap hb]
  simp
  omega
theorem made_zero (n j : Nat) (hj : j < n) : (madeCells #[.int .u8 0] n)[j]? = some (.int .u8 0) := by
  simp [madeCells, hj, Nat.mod_one]
theorem conv_zeros (w : World) (b n : Nat) (hb : w.heap[b]? = some (.cells (madeCells #[.int .u8 0] n) 5 (0, 0))) :
    (convert 54 9 (.slice (some ⟨b, 0, none⟩) n n)).run Try.prog w = .ok (.string (zeros n)) w := by
  have h := run_convert_bytes_back w 54 9 5 ⟨b, 0, none⟩ n (List.replicate n (0 : UInt8)) Try.underlying54 Try.underlying5 Try.underlying9 (by
    intro j hj
    rw [List.length_replicate] at hj
    have e : (⟨b, 0, none⟩ : Addr).add j = ⟨b, j, none⟩ := by unfold Addr.add; split <;> simp_all
    rw [e, Lib.cell_of_heap hb, made_zero n j hj]
    simp)
  rw [List.length_replicate] at h
  exact h
theorem make_zeros (w : World) (n : Nat) (hn : n ≤ 100) : (Instr.makeSlice 54 (.int .i64 (n : Int)) (.int .i64 (n : Int))).run Try.prog w = .ok (.slice (some ⟨w.heap.size, 0, none⟩) n n) (w.alloc (.cells (madeCells #[.int .u8 0] n) 5 (0, 0))) := by
  obtain ⟨i0, hi, hz0, hz1, hz2⟩ := info_parts infoByte
  have h := run_make (P := Try.prog) w 54 5 i0 (.int .u8 0) Try.underlying54 hi hz0 .i64 .i64 (n : Int) (n : Int) (by omega) (Int.le_refl _) (by rw [hz2]; omega) (by omega)
  rw [hz1, Int.toNat_natCast, Nat.mul_one] at h
  exact h

theorem name_of (c : Nat) (h1 : 97 ≤ c) (h2 : c ≤ 101) : isName (⟨#[UInt8.ofNat c]⟩ : ByteArray).data.toList = true := by
  have : c = 97 ∨ c = 98 ∨ c = 99 ∨ c = 100 ∨ c = 101 := by omega
  rcases this with rfl | rfl | rfl | rfl | rfl <;> decide

/-- Behind round k. -/
def RAt (R : Nat) (W : World) (p : Nat) (k : Nat) (u : Nat) (wr : World) : Prop := ∃ st, Own W p st wr ∧ RInv R k st ∧ used st = u

set_option maxHeartbeats 8000000 in
set_option maxRecDepth 100000 in
theorem room_true (W : World) (room : Int) (v : Value) (_n0 : -9223372036854775808 ≤ room) (_n1 : room ≤ 9223372036854775807) (o : IsInts v W) :
    Calls Try.prog 7 #[.int .i64 room, v] W (Yes W) := by
  obtain ⟨ks, db, ⟨x, cp, rfl, h1, h2, h3⟩, hdb⟩ := o
  unfold maxLen at h2
  have ha : IntKind.u64.wrap room = room % 18446744073709551616 := by rw [IntKind.wrap_u64]
  have ha0 : 0 ≤ room % 18446744073709551616 := Int.emod_nonneg _ (by decide)
  obtain ⟨R, hR⟩ : ∃ R : Nat, room % 18446744073709551616 % 500 = (R : Int) := ⟨(room % 18446744073709551616 % 500).toNat, by omega⟩
  have hR2 : R < 500 := by omega
  have HR := Lib.hid hR
  have H3 := Lib.hid h3
  have HDB := Lib.hid hdb
  clear hR h3 hdb
  go_enter Try.func7, Try.ntmps7
  go_wp2_with fail
  refine (works_true W).mono ?_
  rintro e w0 ⟨rfl, hb0⟩
  replace hb0 := Lib.hid hb0
  go_wp2_with fail
  rw [HR.out]
  clear ha ha0 HR
  refine (new_any (R : Int) ⟨by omega, by omega⟩ w0).mono ?_
  intro e w1 hm
  obtain ⟨p, rfl, h0⟩ := Own.made hb0.out hm
  have hst : RAt R W p 0 0 w1 := ⟨_, h0, rinv_new R, rfl⟩
  replace hst := Lib.hid hst
  clear h0 hm hb0
  go_wp2_with fail
  go_loopw [6, 7] (fun u i wr => ∃ k n : Nat, k ≤ ks.length ∧ k ≤ 50 ∧ n ≤ R ∧ i = .int .i64 (k : Int) ∧ u = .int .i64 (n : Int) ∧ RAt R W p k n wr) (fun _ i _ => 50 - (intOf i).toNat)
  case atStart => exact ⟨0, 0, Nat.zero_le _, Nat.zero_le _, Nat.zero_le _, rfl, rfl, hst.out⟩
  case round =>
    obtain ⟨k, u, hk1, hk2, huR, rfl, rfl, hrat⟩ := hrel
    replace hrat := Lib.hid hrat
    by_cases hend : k < ks.length ∧ k < 50
    · obtain ⟨hlt, hlt2⟩ := hend
      have hd1 : decide (k < ks.length) = true := decide_eq_true hlt
      have hd2 : decide ((k : Int) < 50) = true := decide_eq_true (by omega)
      obtain ⟨st, hown, hinv, hused⟩ := hrat.out
      obtain ⟨y, hy⟩ : ∃ y, ks[k]? = some y := ⟨_, List.getElem?_eq_getElem hlt⟩
      have hne : ks ≠ [] := by intro e; rw [e] at hlt; simp at hlt
      obtain ⟨of, rfl, hcells⟩ := H3.out hne
      have hcy : wr.cell? ⟨db, of + k, none⟩ = some (.int .i64 y) := (hown.below.cell (p := ⟨db, of + k, none⟩) (HDB.out hne)).trans (hcells k y hy).1
      have hb : IntKind.u64.wrap y = y % 18446744073709551616 := by rw [IntKind.wrap_u64]
      have hb0 : 0 ≤ y % 18446744073709551616 := Int.emod_nonneg _ (by decide)
      obtain ⟨m, hm⟩ : ∃ m : Nat, y % 18446744073709551616 % 100 = (m : Int) := ⟨(y % 18446744073709551616 % 100).toNat, by omega⟩
      have hm2 : m < 100 := by omega
      have HM := Lib.hid hm
      have HO := Lib.hid hown
      have HI := Lib.hid hinv
      have HU := Lib.hid hused
      clear hown hinv hused hcells hy hm hrat
      go_upto_region 10 with fail
      rw [HM.out]
      -- GEN
      have hm5 : ((k : Int)).tmod 5 = ((k % 5 : Nat) : Int) := by rw [Int.tmod_eq_emod_of_nonneg (by omega)]; omega
      have hm5' : ((k : Int)) % 5 = ((k % 5 : Nat) : Int) := by omega
      have hm6 : IntKind.i64.wrap (97 + ((k % 5 : Nat) : Int)) = ((97 + k % 5 : Nat) : Int) := by rw [IntWalk.i64_in _ (by omega)]; omega
      have hm7 : IntKind.u8.wrap ((97 + k % 5 : Nat) : Int) = ((97 + k % 5 : Nat) : Int) := by rw [IntKind.wrap_u8]; omega
      have hc1 : 97 ≤ 97 + k % 5 := by omega
      have hc2 : 97 + k % 5 ≤ 101 := by omega
      generalize 97 + k % 5 = c at hm6 hm7 hc1 hc2
      generalize k % 5 = k5 at hm5 hm5' hm6
      have hmk := fun w => make_zeros w m (by omega)
      have s1 : (wr.alloc (.cells #[.int .u8 (c : Int)] 5 (0, 0))).heap.size = wr.heap.size + 1 := by simp
      have s2 : (wr.alloc (.cells (madeCells #[.int .u8 0] m) 5 (0, 0))).heap.size = wr.heap.size + 1 := by simp
      have q1 := conv_name (wr.alloc (.cells #[.int .u8 (c : Int)] 5 (0, 0))).drew wr.heap.size c (by omega) (cell_new wr _)
      have q2 := conv_name ((wr.alloc (.cells #[.int .u8 (c : Int)] 5 (0, 0))).alloc (.cells (madeCells #[.int .u8 0] m) 5 (0, 0))).drew wr.heap.size c (by omega) ((Below.heap_alloc _ _ _ (by simp)).trans (cell_new wr _))
      have q3 := conv_name ((wr.alloc (.cells (madeCells #[.int .u8 0] m) 5 (0, 0))).alloc (.cells #[.int .u8 (c : Int)] 5 (0, 0))).drew (wr.heap.size + 1) c (by omega) (by have h := cell_new (wr.alloc (.cells (madeCells #[.int .u8 0] m) 5 (0, 0))) (.cells #[.int .u8 (c : Int)] 5 (0, 0)); rw [s2] at h; exact h)
      have q4 := conv_zeros (wr.alloc (.cells (madeCells #[.int .u8 0] m) 5 (0, 0))).drew wr.heap.size m (cell_new wr _)
      have q5 := conv_zeros ((wr.alloc (.cells (madeCells #[.int .u8 0] m) 5 (0, 0))).alloc (.cells #[.int .u8 (c : Int)] 5 (0, 0))).drew wr.heap.size m ((Below.heap_alloc _ _ _ (by simp)).trans (cell_new wr _))
      have q6 := conv_zeros ((wr.alloc (.cells #[.int .u8 (c : Int)] 5 (0, 0))).alloc (.cells (madeCells #[.int .u8 0] m) 5 (0, 0))).drew (wr.heap.size + 1) m (by have h := cell_new (wr.alloc (.cells #[.int .u8 (c : Int)] 5 (0, 0))) (.cells (madeCells #[.int .u8 0] m) 5 (0, 0)); rw [s1] at h; exact h)
      have sz : ∀ n : UInt8, (⟨#[n]⟩ : ByteArray).size ≤ maxLen := fun n => by unfold maxLen; simp [ByteArray.size]
      replace sz := Lib.hid sz
      have HNM := Lib.hid (name_of c hc1 hc2)
      have SM := Lib.hid (HI.out.small hR2 hk2 (z := (zeros m).size) (by rw [(zeros_len m).1]; omega))
      obtain ⟨nm, hnm⟩ : ∃ nm, nm = (⟨#[UInt8.ofNat c]⟩ : ByteArray).data.toList := ⟨_, rfl⟩
      have HNE := Lib.hid hnm
      rw [← hnm] at HNM
      clear hnm s1 s2
      by_cases hfit : u + m ≤ R
      · have hd5 : decide ((u : Int) + (m : Int) ≤ (R : Int)) = true := decide_eq_true (by omega)
        have HST := Lib.hid (fun st' w' (h : Own W p st' w') (e : st' = appS st nm (zeros m).data.toList) => (show (appE st nm (zeros m).data.toList = 0 ∧ RAt R W p (k + 1) (u + m) w') from by
          subst e
          obtain ⟨a, b, c⟩ := (rinv_step HI.out hlt2 HNM.out (by rw [(zeros_len m).2]; omega) h.fine).1 (by rw [(zeros_len m).2, HU.out]; omega)
          exact ⟨a, _, h, b, by rw [c, HU.out, (zeros_len m).2]⟩))
        go_cut [9] from 18 to 70 (fun e wx => e = .int .i64 0 ∧ RAt R W p (k + 1) (u + m) wx)
        case first =>
          go_region_with (go_at_call 20; refine ((HO.out.grow (by repeat (first | exact Upon.refl _ _ | refine Upon.drew ?_ | refine Upon.alloc ?_ _))).append ⟨#[UInt8.ofNat c]⟩ (zeros m) (sz.out _) SM.out).mono ?_; rintro e w2 ⟨rfl, hw2⟩; replace hw2 := Lib.hid hw2)
          all_goals (go_wp2_with fail; go_meet; obtain ⟨z1, z2⟩ := HST.out _ w2 (by rw [HNE.out]; exact hw2.out) rfl; exact ⟨congrArg (Value.int .i64) (by rw [HNE.out] at z1; exact z1), z2⟩)
        case rest =>
          obtain ⟨rfl, hr2⟩ := hcut
          obtain ⟨st2, hown2, hinv2, hused2⟩ := hr2
          have hfit2 := hinv2.fit
          have hus := hown2.used (by omega)
          rw [hused2] at hus hfit2
          have HUS := Lib.hid hus
          have HI2 := Lib.hid hinv2
          have HU2 := Lib.hid hused2
          clear hown2 hinv2 hused2 hus q1 q2 q3 q4 q5 q6 hmk hm5 hm5' hm6 hm7
          go_wp2_with fail
          refine HUS.out.mono ?_
          rintro e w3 ⟨rfl, h3⟩
          have HX := Lib.hid (show RAt R W p (k + 1) (u + m) w3 from ⟨st2, h3, HI2.out, HU2.out⟩)
          clear h3
          go_wp2
          go_roundw
          case rel => exact ⟨k + 1, u + m, by omega, by omega, by omega, by go_num, by go_num, HX.out⟩
          case measure => simp [intOf]; omega
      · have hd5 : decide ((u : Int) + (m : Int) ≤ (R : Int)) = false := decide_eq_false (by omega)
        have HST := Lib.hid (fun st' w' (h : Own W p st' w') (e : st' = appS st nm (zeros m).data.toList) => (show (appE st nm (zeros m).data.toList = 4 ∧ RAt R W p (k + 1) (u) w') from by
          subst e
          obtain ⟨a, b, c⟩ := (rinv_step HI.out hlt2 HNM.out (by rw [(zeros_len m).2]; omega) h.fine).2 (by rw [(zeros_len m).2, HU.out]; omega)
          exact ⟨a, _, h, b, by rw [c, HU.out]⟩))
        go_cut [9] from 18 to 70 (fun e wx => e = .int .i64 4 ∧ RAt R W p (k + 1) (u) wx)
        case first =>
          go_region_with (go_at_call 20; refine ((HO.out.grow (by repeat (first | exact Upon.refl _ _ | refine Upon.drew ?_ | refine Upon.alloc ?_ _))).append ⟨#[UInt8.ofNat c]⟩ (zeros m) (sz.out _) SM.out).mono ?_; rintro e w2 ⟨rfl, hw2⟩; replace hw2 := Lib.hid hw2)
          all_goals (go_wp2_with fail; go_meet; obtain ⟨z1, z2⟩ := HST.out _ w2 (by rw [HNE.out]; exact hw2.out) rfl; exact ⟨congrArg (Value.int .i64) (by rw [HNE.out] at z1; exact z1), z2⟩)
        case rest =>
          obtain ⟨rfl, hr2⟩ := hcut
          obtain ⟨st2, hown2, hinv2, hused2⟩ := hr2
          have hfit2 := hinv2.fit
          have hus := hown2.used (by omega)
          rw [hused2] at hus hfit2
          have HUS := Lib.hid hus
          have HI2 := Lib.hid hinv2
          have HU2 := Lib.hid hused2
          clear hown2 hinv2 hused2 hus q1 q2 q3 q4 q5 q6 hmk hm5 hm5' hm6 hm7
          go_wp2_with fail
          refine HUS.out.mono ?_
          rintro e w3 ⟨rfl, h3⟩
          have HX := Lib.hid (show RAt R W p (k + 1) (u) w3 from ⟨st2, h3, HI2.out, HU2.out⟩)
          clear h3
          go_wp2
          go_roundw
          case rel => exact ⟨k + 1, u, by omega, by omega, by omega, by go_num, by go_num, HX.out⟩
          case measure => simp [intOf]; omega
    · by_cases hlt : k < ks.length
      · have hd1 : decide (k < ks.length) = true := decide_eq_true hlt
        have hd2 : decide ((k : Int) < 50) = false := decide_eq_false (by omega)
        obtain ⟨st, hown, _, _⟩ := hrat.out
        have HB := Lib.hid hown.below
        clear hown
        go_wp2
        go_ret
        exact ⟨rfl, HB.out⟩
      · have hd1 : decide (k < ks.length) = false := decide_eq_false hlt
        obtain ⟨st, hown, _, _⟩ := hrat.out
        have HB := Lib.hid hown.below
        clear hown
        go_wp2
        go_ret
        exact ⟨rfl, HB.out⟩
end Dsk
end Go.Proofs.Ytfpphahdbhelcaa
