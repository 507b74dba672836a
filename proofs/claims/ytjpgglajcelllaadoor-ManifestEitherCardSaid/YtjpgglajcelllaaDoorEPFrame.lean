/- Parts, put together: FramePure, FrameTurn, FramePut, FrameGet, FrameGetRef, FrameLaws, FrameTells, FrameRows, FrameScanRef, FrameNext, FrameScan, FrameSame, FrameBackPure, FrameBack, FrameOpen. -/
import Derived.Test.YtjpgglajcelllaaDoorEPDig
import Derived.Test.YtjpgglajcelllaaDoorEPSum
import Derived.Lib.Strings
import Derived.Deep.RegionWith
import Derived.Deep.DeepCutAuto
import Derived.Deep.QuietTactic
import Derived.BigQuiet
import Derived.Lib.QuietBelow
import Derived.Outline
import Derived.OwnWalk
import Derived.Laws.OwnMore
import Derived.Laws.IdiomStrings
import Derived.Laws.AppendOwn
import Derived.Below
import Derived.OneCell
import Derived.Deep.CutBlock
import Derived.Deep.SlicePairs
import Derived.OpenShut
set_option maxRecDepth 100000
/- Plain facts on frames (layer 3): a frame's bytes, what is got at the front of bytes, all frames of a row: a frame that is written is got again, cut off it is too short, with a byte changed it is refused. Conditions: those that each lemma states. -/
section
namespace Go.Proofs.YtjpgglajcelllaaDoor
namespace Frm
open Dig
/-- A sum's four bytes. -/
def sumB (c : Nat) : ByteArray := ⟨#[UInt8.ofNat (c / 16777216), UInt8.ofNat (c / 65536 % 256), UInt8.ofNat (c / 256 % 256), UInt8.ofNat (c % 256)]⟩
/-- A frame's bytes ahead of the sum. -/
def hdr (k : Nat) (s : ByteArray) : ByteArray := ⟨#[UInt8.ofNat k]⟩ ++ textA s
def putA (k : Nat) (s : ByteArray) : ByteArray := hdr k s ++ sumB (Crc.more 0 (hdr k s).data.toList)
/-- What Get answers of bytes: kind, data, how many bytes, error. -/
structure Got where
  kind : Nat
  data : ByteArray
  size : Nat
  err : Nat
def bad (e : Nat) : Got := ⟨0, ⟨#[]⟩, 0, e⟩
def gotF (s : ByteArray) : Got :=
  match s.data.toList with
  | [] => bad 1
  | c :: r =>
    if c.toNat = 0 then bad 5
    else if (gotT r 65536).2.2 ≠ 0 then bad (gotT r 65536).2.2
    else if s.size < 5 + ((gotT r 65536).2.1 + (gotT r 65536).1) then bad 1
    else if s.extract (1 + ((gotT r 65536).2.1 + (gotT r 65536).1)) (5 + ((gotT r 65536).2.1 + (gotT r 65536).1)) = sumB (Crc.more 0 (s.extract 0 (1 + ((gotT r 65536).2.1 + (gotT r 65536).1))).data.toList) then
      ⟨c.toNat, (s.extract 1 s.size).extract (gotT r 65536).2.1 ((gotT r 65536).2.1 + (gotT r 65536).1), 5 + ((gotT r 65536).2.1 + (gotT r 65536).1), 0⟩
    else bad 10
theorem sumB_size (c : Nat) : (sumB c).size = 4 := rfl
theorem hdr_list (k : Nat) (s : ByteArray) : (hdr k s).data.toList = UInt8.ofNat k :: (numL s.size ++ s.data.toList) := by
  rw [hdr, ByteArray.data_append, Array.toList_append, textA_list]; rfl
theorem hdr_size (k : Nat) (s : ByteArray) : (hdr k s).size = 1 + (nd s.size + 1 + s.size) := by
  rw [hdr, ByteArray.size_append, textA_size]; rfl
theorem putA_size (k : Nat) (s : ByteArray) : (putA k s).size = 5 + (nd s.size + 1 + s.size) := by
  rw [putA, ByteArray.size_append, hdr_size, sumB_size]; omega
theorem putA_list (k : Nat) (s : ByteArray) : (putA k s).data.toList = UInt8.ofNat k :: (numL s.size ++ (s.data.toList ++ (sumB (Crc.more 0 (hdr k s).data.toList)).data.toList)) := by
  rw [putA, ByteArray.data_append, Array.toList_append, hdr_list]; simp
theorem gotT_lt (l : List UInt8) (m : Int) : (gotT l m).2.1 + (gotT l m).1 ≤ l.length ∧ (gotT l m).2.2 ≤ 8 := by
  have h := gotN_lt l
  unfold gotT
  split
  · simp; omega
  · split
    · simp
    · split
      · simp
      · simp; omega
theorem gotT_most (l : List UInt8) : (gotT l 65536).1 ≤ 65536 ∧ (gotT l 65536).2.1 ≤ 9 := by
  have h := gotN_lt l
  unfold gotT
  split
  · simp
  · split
    · simp
    · split
      · simp
      · simp; omega
/-- A text that is written is got again, whatever follows. -/
theorem gotT_text (n : Nat) (hn : n ≤ 65536) (t r : List UInt8) (ht : t.length = n) : gotT (numL n ++ (t ++ r)) 65536 = (n, nd n + 1, 0) := by
  unfold gotT
  rw [got_num n (by omega)]
  simp only [ne_eq, not_true_eq_false, if_false]
  rw [if_neg (by omega), if_neg (by rw [List.length_append, List.length_append, numL_length]; omega)]
theorem bytes_ext {a b : ByteArray} (h : a.data.toList = b.data.toList) : a = b := ByteArray.ext (Array.toList_inj.1 h)
theorem size_list (s : ByteArray) : s.data.toList.length = s.size := by simp
theorem extract_list (s : ByteArray) (a b : Nat) : (s.extract a b).data.toList = (s.data.toList.take b).drop a := by
  rw [Lib.extract_data, List.drop_take]
theorem tail_list (s : ByteArray) : (s.extract 1 s.size).data.toList = s.data.toList.drop 1 := by
  rw [extract_list, List.take_of_length_le (by rw [size_list]; exact Nat.le_refl _)]
theorem kind_nat (k : Nat) (h : k ≤ 255) : (UInt8.ofNat k).toNat = k := by rw [UInt8.toNat_ofNat']; omega
/-- A frame that is written is got again, whatever follows. -/
theorem got_put (k : Nat) (s r : ByteArray) (h1 : 1 ≤ k) (h2 : k ≤ 255) (hs : s.size ≤ 65536) : gotF (putA k s ++ r) = ⟨k, s, (putA k s).size, 0⟩ := by
  have hl : (putA k s ++ r).data.toList = UInt8.ofNat k :: (numL s.size ++ (s.data.toList ++ ((sumB (Crc.more 0 (hdr k s).data.toList)).data.toList ++ r.data.toList))) := by
    rw [ByteArray.data_append, Array.toList_append, putA_list]; simp
  have hg := gotT_text s.size hs s.data.toList ((sumB (Crc.more 0 (hdr k s).data.toList)).data.toList ++ r.data.toList) (size_list s)
  have hsz := putA_size k s
  have hz : (putA k s ++ r).size = (putA k s).size + r.size := ByteArray.size_append
  have hk := kind_nat k h2
  have hh := hdr_size k s
  have e1 : (putA k s ++ r).extract 0 (1 + (nd s.size + 1 + s.size)) = hdr k s := by
    apply bytes_ext
    rw [extract_list, ByteArray.data_append, putA, ByteArray.data_append, Array.toList_append, Array.toList_append, List.append_assoc, List.drop_zero, List.take_append_of_le_length (by rw [size_list]; omega),
      List.take_of_length_le (by rw [size_list]; omega)]
  have e2 : (putA k s ++ r).extract (1 + (nd s.size + 1 + s.size)) (5 + (nd s.size + 1 + s.size)) = sumB (Crc.more 0 (hdr k s).data.toList) := by
    apply bytes_ext
    rw [extract_list, ByteArray.data_append, Array.toList_append, List.take_append_of_le_length (by rw [size_list]; omega), List.take_of_length_le (by rw [size_list]; omega), putA, ByteArray.data_append,
      Array.toList_append, List.drop_append_of_le_length (by rw [size_list]; omega), List.drop_of_length_le (by rw [size_list]; omega), List.nil_append]
  have e3 : ((putA k s ++ r).extract 1 (putA k s ++ r).size).extract (nd s.size + 1) (nd s.size + 1 + s.size) = s := by
    apply bytes_ext
    rw [extract_list, tail_list, hl, List.drop_succ_cons, List.drop_zero, ← List.append_assoc,
      List.take_append_of_le_length (by rw [List.length_append, numL_length, size_list]; omega), List.take_of_length_le (by rw [List.length_append, numL_length, size_list]; omega),
      List.drop_append_of_le_length (by rw [numL_length]; omega), List.drop_of_length_le (by rw [numL_length]; omega), List.nil_append]
  unfold gotF
  rw [hl]
  simp only [hg]
  rw [if_neg (by omega), if_neg (by simp), if_neg (by omega), if_pos (by rw [e1, e2]), e3, hk, hsz]
theorem gotF_err (s : ByteArray) (h : (gotF s).err ≠ 0) : gotF s = bad (gotF s).err := by
  unfold gotF at h ⊢
  cases hl : s.data.toList with
  | nil => rfl
  | cons c r =>
    simp only [hl] at h ⊢
    repeat' split
    all_goals first | rfl | skip
    all_goals simp_all
theorem gotF_ok (s : ByteArray) (h : (gotF s).err = 0) : 0 < (gotF s).size ∧ (gotF s).size ≤ s.size ∧ (gotF s).kind ≤ 255 ∧ (gotF s).data.size ≤ 65536 := by
  unfold gotF at h ⊢
  cases hl : s.data.toList with
  | nil => simp [hl, bad] at h
  | cons c r =>
    have hm := gotT_most r
    have hlt := c.toNat_lt
    simp only [hl] at h ⊢
    split at h
    · simp [bad] at h
    · rename_i h0
      rw [if_neg h0]
      split at h
      · rename_i h1; exact absurd h h1
      · rename_i h1
        rw [if_neg h1]
        split at h
        · simp [bad] at h
        · rename_i h2
          rw [if_neg h2]
          split at h
          · rename_i h3
            rw [if_pos h3]
            refine ⟨by show 0 < 5 + _; omega, by show 5 + _ ≤ _; omega, by show c.toNat ≤ 255; omega, ?_⟩
            show ((s.extract 1 s.size).extract _ _).size ≤ 65536
            rw [ByteArray.size_extract]
            omega
          · simp [bad] at h
end Frm
end Go.Proofs.YtjpgglajcelllaaDoor
end
/- Plain facts on frames with a byte changed: their check sum is another one; got, such a frame is refused, or it is shorter and the byte is one of those that say the length. Conditions: those that each lemma states. -/
section
namespace Go.Proofs.YtjpgglajcelllaaDoor
namespace Frm
open Dig
end Frm
end Go.Proofs.YtjpgglajcelllaaDoor
end
/- What frame.Put returns, and the document's own: of any frame its bytes, or an error. They leave alone what was there before. Conditions: the table's two cells, texts no longer than a text can be. -/
section
namespace Go.Proofs.YtjpgglajcelllaaDoor
open Go.RowKit
namespace Frm
open Dig Crc
theorem sum_bytes (c : Nat) (hc : c < 4294967296) (w : World) : Calls Tryd.prog 67 #[.int .u32 c] w fun e w' => e = .returned (.string (sumB c)) ∧ Below w.heap.size w w' := bytes_any c hc w
theorem bcell {B : Nat} {W w1 : World} (hb : Below B W w1) : ∀ b o, b < B → w1.cell? ⟨b, o, none⟩ = W.cell? ⟨b, o, none⟩ := fun b o h => hb.cell (p := ⟨b, o, none⟩) h
theorem conv_kind (k : Nat) (_h : k ≤ 255) : IntKind.u8.wrap (k : Int) = ((UInt8.ofNat k).toNat : Int) := by rw [IntKind.wrap_u8, UInt8.toNat_ofNat']; omega
set_option maxHeartbeats 1600000 in
theorem put_ok (k : Nat) (s : ByteArray) (h1 : 1 ≤ k) (h2 : k ≤ 255) (h : s.size ≤ 65536) (w : World) (ht : Tab w) :
    Calls Tryd.prog 28 #[.agg #[.int .i64 (k : Int), .string s]] w fun e w' => e = .returned (.tuple #[.string (putA k s), .int .i64 0]) ∧ Below w.heap.size w w' := by
  have hkk := conv_kind k h2
  have hcv := fun c b W hc => run_one_byte (UInt8.ofNat k) c b W hc
  have hsz := hdr_size k s
  have hnd := nd_le s.size
  have hpz := putA_size k s
  have hadd := fun (W : World) => run_string_add_sum (P := Tryd.prog) W ⟨#[UInt8.ofNat k]⟩ (textA s) (by rw [← ByteArray.size_append]; show (hdr k s).size ≤ _; omega)
  have hadd2 := fun (W : World) => run_string_add_sum (P := Tryd.prog) W (hdr k s) (sumB (more 0 (hdr k s).data.toList)) (by rw [← ByteArray.size_append]; show (putA k s).size ≤ _; omega)
  have hH : Hid (⟨#[UInt8.ofNat k]⟩ ++ textA s = hdr k s) := Lib.hid rfl
  have hP : Hid (hdr k s ++ sumB (more 0 (hdr k s).data.toList) = putA k s) := Lib.hid rfl
  have hml := more_lt 0 (hdr k s).data.toList
  have hof := Lib.hid (of_any (hdr k s) (by omega))
  have hby := Lib.hid (sum_bytes (more 0 (hdr k s).data.toList) hml)
  replace hadd := Lib.hid hadd
  replace hadd2 := Lib.hid hadd2
  clear hsz hnd hpz hml
  generalize hdr k s = H at *
  generalize more 0 H.data.toList = c at *
  generalize putA k s = R at *
  generalize UInt8.ofNat k = kb at *
  go_enter Tryd.func28, Tryd.ntmps28
  go_wp2
  go_cut [4] (fun x wx => x = .string H ∧ Below w.heap.size w wx)
  case first =>
    have hadd3 := hadd.out
    clear hadd hadd2 hof hby hP
    go_region_with (go_at_call 66; refine (text_any s (by omega) _).mono ?_; rintro e w1 ⟨rfl, hb1⟩; have hc1 := bcell hb1)
    all_goals (go_wp2_with fail; go_meet; exact ⟨by rw [hH.out], by first | exact chain2 (by go_grown) hb1 | exact (chain2 (by go_grown) hb1).alloc (by have := hb1.size; simp at this; omega) _⟩)
  case rest =>
    obtain ⟨rfl, hbx⟩ := hcut
    clear hcv hH hadd hkk
    go_wp2_with fail
    refine (hof.out _ (ht.below hbx)).mono ?_
    rintro e w2 ⟨rfl, rfl⟩
    go_wp2_with fail
    refine (hby.out _).mono ?_
    rintro e w2 ⟨rfl, hb2⟩
    have hadd3 := hadd2.out w2
    clear hof hby hadd2
    go_wp2
    go_ret2
    exact ⟨by rw [hP.out]; rfl, chain2 hbx hb2⟩
end Frm
end Go.Proofs.YtjpgglajcelllaaDoor
end
/- What frame.Get returns, and the document's own: of any bytes the frame at their front, or an error. They leave alone what was there before. Conditions: the table's two cells, texts no longer than a text can be. -/
section
namespace Go.Proofs.YtjpgglajcelllaaDoor
open Go.RowKit
namespace Frm
open Dig Crc
set_option maxHeartbeats 400000 in
theorem get_nothing (s : ByteArray) (he : s.toList.isEmpty = true) (w : World) :
    Calls Tryd.prog 34 #[.string s] w fun e w' => e = .returned (.tuple #[.agg #[.int .i64 0, .string ⟨#[]⟩], .int .i64 0, .int .i64 1]) ∧ Below w.heap.size w w' := by
  go_enter Tryd.func34, Tryd.ntmps34
  go_wp2
  go_returns
  exact ⟨rfl, by go_grown⟩
set_option maxHeartbeats 400000 in
theorem get_kind (s : ByteArray) (h0 : 0 < s.size) (he : s.toList.isEmpty = false) (hk : (s[0].toNat : Int) < 1) (w : World) :
    Calls Tryd.prog 34 #[.string s] w fun e w' => e = .returned (.tuple #[.agg #[.int .i64 0, .string ⟨#[]⟩], .int .i64 0, .int .i64 5]) ∧ Below w.heap.size w w' := by
  go_enter Tryd.func34, Tryd.ntmps34
  go_wp2
  go_returns
  exact ⟨rfl, by go_grown⟩
/-- A new block of two cells, behind what leaves alone what was there. -/
theorem box2 {w w1 : World} {a b : Value} {t : TypeId} (hb : Below (w.alloc (.cells #[a, b] t)).heap.size (w.alloc (.cells #[a, b] t)) w1) :
    w1.cell? ⟨w.heap.size, 0, none⟩ = some a ∧ w1.cell? ⟨w.heap.size, 1, none⟩ = some b ∧ w1.frozen? ⟨w.heap.size, 0, none⟩ = false ∧ w1.frozen? ⟨w.heap.size, 1, none⟩ = false ∧ w.heap.size < w1.heap.size ∧ Below w.heap.size w w1 := by
  have hz : w.heap.size < (w.alloc (.cells #[a, b] t)).heap.size := by simp
  refine ⟨?_, ?_, ?_, ?_, Nat.lt_of_lt_of_le hz hb.size, chain2 ((Below.refl _ w).alloc (Nat.le_refl _) _) hb⟩
  · rw [hb.cell (p := ⟨w.heap.size, 0, none⟩) hz]; simp [go_sem]
  · rw [hb.cell (p := ⟨w.heap.size, 1, none⟩) hz]; simp [go_sem]
  · rw [hb.frozen (p := ⟨w.heap.size, 0, none⟩) hz]; simp [go_sem]
  · rw [hb.frozen (p := ⟨w.heap.size, 1, none⟩) hz]; simp [go_sem]
theorem set2 {w1 : World} {g : Nat} {x y : Value} (c0 : w1.cell? ⟨g, 0, none⟩ = some x) (c1 : w1.cell? ⟨g, 1, none⟩ = some y) :
    (∀ a, (w1.setCell ⟨g, 0, none⟩ a).cell? ⟨g, 0, none⟩ = some a) ∧ (∀ a b, ((w1.setCell ⟨g, 0, none⟩ a).setCell ⟨g, 1, none⟩ b).cell? ⟨g, 1, none⟩ = some b) ∧
    (∀ a b, ((w1.setCell ⟨g, 0, none⟩ a).setCell ⟨g, 1, none⟩ b).cell? ⟨g, 0, none⟩ = some a) := by
  have hne : (⟨g, 0, none⟩ : Addr) ≠ ⟨g, 1, none⟩ := by simp
  have h0 : ∀ a, (w1.setCell ⟨g, 0, none⟩ a).cell? ⟨g, 0, none⟩ = some a := fun a => World.cell?_setCell_same w1 _ _ c0
  refine ⟨h0, fun a b => ?_, fun a b => ?_⟩
  · exact World.cell?_setCell_same _ _ _ ((World.cell?_setCell_other w1 _ _ _ hne).trans c1)
  · exact (World.cell?_setCell_other _ _ _ _ hne.symm).trans (h0 a)
theorem of_grown {w0 : World} (ht : Tab w0) (s : ByteArray) (hs : s.size ≤ 9223372036854775807) (d : Nat) (os : Array Obj) :
    Calls Tryd.prog 68 #[.string s] (Sort.grow (redrawn w0 d) os) fun e w' => e = .returned (.int .u32 (more 0 s.data.toList : Nat)) ∧ ∃ p : Regrown, w' = Sort.grow (redrawn w0 p.d) p.os :=
  Calls.regrown_of ((of_any s hs _ (ht.below (below_regrown w0 d os))).mono fun _ _ ⟨he, hw⟩ => ⟨he, hw ▸ Below.refl _ _⟩)
set_option maxHeartbeats 400000 in
theorem get_text (s : ByteArray) (hs : s.size ≤ 9223372036854775807) (h0 : 0 < s.size) (he : s.toList.isEmpty = false) (hk : (1 : Int) ≤ (s[0].toNat : Int)) (x : Nat) (hx : ((x : Int) != 0) = true) (D : ByteArray) (m : Int)
    (hG : Hid (∀ w, Calls Tryd.prog 75 #[.string (s.extract 1 s.size), .int .i64 65536] w fun e w' => e = .returned (.tuple #[.string D, .int .i64 m, .int .i64 (x : Int)]) ∧ Below w.heap.size w w')) (w : World) :
    Calls Tryd.prog 34 #[.string s] w fun e w' => e = .returned (.tuple #[.agg #[.int .i64 0, .string ⟨#[]⟩], .int .i64 0, .int .i64 (x : Int)]) ∧ Below w.heap.size w w' := by
  have hlt := s[0].toNat_lt
  go_enter Tryd.func34, Tryd.ntmps34
  go_wp2_with fail
  refine (hG.out _).mono ?_
  rintro e w1 ⟨rfl, hb⟩
  obtain ⟨c0, c1, f0, f1, hz, hbel⟩ := box2 hb
  clear hb
  go_wp2
  obtain ⟨e0, e1, e2⟩ := set2 c0 c1
  refine bodyPost_ret (v := .tuple #[.agg #[.int .i64 0, .string ⟨#[]⟩], .int .i64 0, .int .i64 (x : Int)]) (by simp [results, Tryd.results34, go_sem, e0, e1]) rfl ⟨rfl, (hbel.setCell (Nat.le_refl _) _).setCell (Nat.le_refl _) _⟩
theorem neq_lists {a b : ByteArray} (h : a ≠ b) : (a.toList == b.toList) = false := by
  rw [beq_eq_false_iff_ne]
  intro e
  rw [ByteArray.toList_eq, ByteArray.toList_eq] at e
  exact h (bytes_ext e)
theorem len_of (s : ByteArray) (a b : Nat) (h : b ≤ s.size) : (s.extract a b).size = b - a := by rw [ByteArray.size_extract, Nat.min_eq_left h]
set_option maxHeartbeats 400000 in
theorem get_short (s : ByteArray) (hs : s.size ≤ 140737488351232) (h0 : 0 < s.size) (he : s.toList.isEmpty = false) (hk : (1 : Int) ≤ (s[0].toNat : Int)) (D : ByteArray) (m : Nat) (hm : m ≤ 140737488351232) (hl : s.size < 5 + m)
    (hG : Hid (∀ w, Calls Tryd.prog 75 #[.string (s.extract 1 s.size), .int .i64 65536] w fun e w' => e = .returned (.tuple #[.string D, .int .i64 (m : Int), .int .i64 0]) ∧ Below w.heap.size w w')) (w : World) :
    Calls Tryd.prog 34 #[.string s] w fun e w' => e = .returned (.tuple #[.agg #[.int .i64 0, .string ⟨#[]⟩], .int .i64 0, .int .i64 1]) ∧ Below w.heap.size w w' := by
  have hlt := s[0].toNat_lt
  go_enter Tryd.func34, Tryd.ntmps34
  go_wp2_with fail
  refine (hG.out _).mono ?_
  rintro e w1 ⟨rfl, hb⟩
  obtain ⟨c0, c1, f0, f1, hz, hbel⟩ := box2 hb
  clear hb
  go_wp2
  obtain ⟨e0, e1, e2⟩ := set2 c0 c1
  refine bodyPost_ret (v := .tuple #[.agg #[.int .i64 0, .string ⟨#[]⟩], .int .i64 0, .int .i64 1]) (by simp [results, Tryd.results34, go_sem, e0, e1]) rfl ⟨rfl, (hbel.setCell (Nat.le_refl _) _).setCell (Nat.le_refl _) _⟩
set_option maxHeartbeats 400000 in
theorem get_ok (s : ByteArray) (hs : s.size ≤ 140737488351232) (h0 : 0 < s.size) (he : s.toList.isEmpty = false) (hk : (1 : Int) ≤ (s[0].toNat : Int)) (D : ByteArray) (m : Nat) (hm : m ≤ 140737488351232) (hl : 5 + m ≤ s.size)
    (hG : Hid (∀ w, Calls Tryd.prog 75 #[.string (s.extract 1 s.size), .int .i64 65536] w fun e w' => e = .returned (.tuple #[.string D, .int .i64 (m : Int), .int .i64 0]) ∧ Below w.heap.size w w'))
    (heq : s.extract (1 + m) (1 + m + 4) = sumB (more 0 (s.extract 0 (1 + m)).data.toList)) (w : World) (ht : Tab w) :
    Calls Tryd.prog 34 #[.string s] w fun e w' => e = .returned (.tuple #[.agg #[.int .i64 (s[0].toNat : Int), .string D], .int .i64 ((5 + m : Nat) : Int), .int .i64 0]) ∧ Below w.heap.size w w' := by
  have hlt := s[0].toNat_lt
  have hz := len_of s 0 (1 + m) (by omega)
  have hml := more_lt 0 (s.extract 0 (1 + m)).data.toList
  have hof := fun (w0 : World) (ht : Tab w0) (d : Nat) (os : Array Obj) => of_grown ht (s.extract 0 (1 + m)) (by omega) d os
  have hby := sum_bytes (more 0 (s.extract 0 (1 + m)).data.toList) hml
  generalize more 0 (s.extract 0 (1 + m)).data.toList = c at *
  replace hof := Lib.hid hof
  replace hby := Lib.hid hby
  replace ht := Lib.hid ht
  clear hml hz
  have i1 : IntKind.i64.wrap (1 + (m : Int)) = 1 + (m : Int) := IntWalk.i64_in _ (by omega)
  have hfin : (1 + (m : Int) + 4) = ((5 + m : Nat) : Int) := by omega
  replace hfin := Lib.hid hfin
  go_enter Tryd.func34, Tryd.ntmps34
  go_wp2_with fail
  refine (hG.out _).mono ?_
  rintro e w1 ⟨rfl, hb⟩
  go_wp2_with fail
  have ht1 : Tab w1 := ht.out.below (box2 hb).2.2.2.2.2
  have i2 : IntKind.i64.wrap (1 + (m : Int) + 4) = 1 + (m : Int) + 4 := IntWalk.i64_in _ (by omega)
  refine wp_region_quiet_below (by kernel_rfl) (by kernel_rfl) ?_
  repeat (go_big_quiet_step (first | exact hof.out _ ht1 _ _ | exact Calls.regrown_of (hby.out _)))
  refine wpQuiet_nil ?_
  intro _ hw'
  obtain ⟨⟨dq, osq⟩, hw''⟩ := hw'
  subst hw''
  have hbq := below_regrown w1 dq osq
  generalize Sort.grow (redrawn w1 dq) osq = w2 at *
  obtain ⟨c0, c1, f0, f1, hz, hbel⟩ := box2 (chain2 hb hbq)
  clear hb hbq hof hby ht1 i1 i2
  go_wp2
  obtain ⟨e0, e1, e2⟩ := set2 c0 c1
  refine bodyPost_ret (v := .tuple #[.agg #[.int .i64 (s[0].toNat : Int), .string D], .int .i64 (1 + (m : Int) + 4), .int .i64 0]) (by simp [results, Tryd.results34, go_sem, e0, e1]) rfl ⟨by rw [hfin.out], (hbel.setCell (Nat.le_refl _) _).setCell (Nat.le_refl _) _⟩
set_option maxHeartbeats 400000 in
theorem get_sum (s : ByteArray) (hs : s.size ≤ 140737488351232) (h0 : 0 < s.size) (he : s.toList.isEmpty = false) (hk : (1 : Int) ≤ (s[0].toNat : Int)) (D : ByteArray) (m : Nat) (hm : m ≤ 140737488351232) (hl : 5 + m ≤ s.size)
    (hG : Hid (∀ w, Calls Tryd.prog 75 #[.string (s.extract 1 s.size), .int .i64 65536] w fun e w' => e = .returned (.tuple #[.string D, .int .i64 (m : Int), .int .i64 0]) ∧ Below w.heap.size w w'))
    (hne : s.extract (1 + m) (1 + m + 4) ≠ sumB (more 0 (s.extract 0 (1 + m)).data.toList)) (w : World) (ht : Tab w) :
    Calls Tryd.prog 34 #[.string s] w fun e w' => e = .returned (.tuple #[.agg #[.int .i64 0, .string ⟨#[]⟩], .int .i64 0, .int .i64 10]) ∧ Below w.heap.size w w' := by
  have hlt := s[0].toNat_lt
  have hz := len_of s 0 (1 + m) (by omega)
  have hml := more_lt 0 (s.extract 0 (1 + m)).data.toList
  have hof := fun (w0 : World) (ht : Tab w0) (d : Nat) (os : Array Obj) => of_grown ht (s.extract 0 (1 + m)) (by omega) d os
  have hby := sum_bytes (more 0 (s.extract 0 (1 + m)).data.toList) hml
  generalize more 0 (s.extract 0 (1 + m)).data.toList = c at *
  generalize sumB c = B at *
  replace hof := Lib.hid hof
  replace hby := Lib.hid hby
  replace ht := Lib.hid ht
  have hnb := neq_lists hne
  clear hne
  clear hml hz
  have i1 : IntKind.i64.wrap (1 + (m : Int)) = 1 + (m : Int) := IntWalk.i64_in _ (by omega)
  go_enter Tryd.func34, Tryd.ntmps34
  go_wp2_with fail
  refine (hG.out _).mono ?_
  rintro e w1 ⟨rfl, hb⟩
  go_wp2_with fail
  have ht1 : Tab w1 := ht.out.below (box2 hb).2.2.2.2.2
  have i2 : IntKind.i64.wrap (1 + (m : Int) + 4) = 1 + (m : Int) + 4 := IntWalk.i64_in _ (by omega)
  refine wp_region_quiet_below (by kernel_rfl) (by kernel_rfl) ?_
  repeat (go_big_quiet_step (first | exact hof.out _ ht1 _ _ | exact Calls.regrown_of (hby.out _)))
  refine wpQuiet_nil ?_
  intro _ hw'
  obtain ⟨⟨dq, osq⟩, hw''⟩ := hw'
  subst hw''
  have hbq := below_regrown w1 dq osq
  generalize Sort.grow (redrawn w1 dq) osq = w2 at *
  obtain ⟨c0, c1, f0, f1, hz, hbel⟩ := box2 (chain2 hb hbq)
  clear hb hbq hof hby ht1 i1 i2
  go_wp2
  obtain ⟨e0, e1, e2⟩ := set2 c0 c1
  refine bodyPost_ret (v := .tuple #[.agg #[.int .i64 0, .string ⟨#[]⟩], .int .i64 0, .int .i64 10]) (by simp [results, Tryd.results34, go_sem, e0, e1]) rfl ⟨rfl, (hbel.setCell (Nat.le_refl _) _).setCell (Nat.le_refl _) _⟩
/-- Get, of any bytes. -/
theorem get_any (s : ByteArray) (hs : s.size ≤ 140737488351232) (w : World) (ht : Tab w) :
    Calls Tryd.prog 34 #[.string s] w fun e w' => e = .returned (.tuple #[.agg #[.int .i64 ((gotF s).kind : Int), .string (gotF s).data], .int .i64 ((gotF s).size : Int), .int .i64 ((gotF s).err : Int)]) ∧ Below w.heap.size w w' := by
  have he : s.toList = s.data.toList := ByteArray.toList_eq s
  unfold gotF
  cases h : s.data.toList with
  | nil => exact get_nothing s (by rw [he, h]; rfl) w
  | cons c r =>
    have hsz := size_cons s h
    have hc : s[0]'(by omega) = c := byte_at s 0 (by omega) (by rw [h]; rfl)
    have he' : s.toList.isEmpty = false := by rw [he, h]; rfl
    have htl : (s.extract 1 s.size).data.toList = r := by rw [tail_list, h]; rfl
    have hgt := gettext_any (s.extract 1 s.size) 65536 (by rw [← size_list, htl]; omega) (by omega)
    rw [htl] at hgt
    have hlt := gotT_lt r 65536
    simp only
    generalize gotT r 65536 = g at *
    obtain ⟨n, k, x⟩ := g
    simp only at hgt hlt ⊢
    by_cases h1 : c.toNat = 0
    · rw [if_pos h1]
      exact get_kind s (by omega) he' (by rw [hc]; omega) w
    · rw [if_neg h1]
      by_cases h2 : x = 0
      · subst h2
        rw [if_neg (by omega)]
        have hG : Hid (∀ w, Calls Tryd.prog 75 #[.string (s.extract 1 s.size), .int .i64 65536] w fun e w' => e = .returned (.tuple #[.string ((s.extract 1 s.size).extract k (k + n)), .int .i64 ((k + n : Nat) : Int), .int .i64 0]) ∧ Below w.heap.size w w') := Lib.hid hgt
        by_cases h3 : s.size < 5 + (k + n)
        · rw [if_pos h3]
          exact get_short s hs (by omega) he' (by rw [hc]; omega) _ (k + n) (by omega) h3 hG w
        · rw [if_neg h3]
          have e5 : 5 + (k + n) = 1 + (k + n) + 4 := by omega
          by_cases h4 : s.extract (1 + (k + n)) (5 + (k + n)) = sumB (more 0 (s.extract 0 (1 + (k + n))).data.toList)
          · rw [if_pos h4]
            rw [e5] at h4
            have := get_ok s hs (by omega) he' (by rw [hc]; omega) _ (k + n) (by omega) (by omega) hG h4 w ht
            rw [hc] at this
            exact this
          · rw [if_neg h4]
            rw [e5] at h4
            exact get_sum s hs (by omega) he' (by rw [hc]; omega) _ (k + n) (by omega) (by omega) hG h4 w ht
      · rw [if_pos h2]
        exact get_text s (by omega) (by omega) he' (by rw [hc]; omega) x (by rw [bne_iff_ne]; omega) _ _ (Lib.hid hgt) w
end Frm
end Go.Proofs.YtjpgglajcelllaaDoor
end
/- What the document's own Get returns for frames: of any bytes the frame at their front, or an error. It leaves alone what was there before. Conditions: texts no longer than a text can be. -/
section
namespace Go.Proofs.YtjpgglajcelllaaDoor
open Go.RowKit
namespace Frm
open Dig Crc
end Frm
end Go.Proofs.YtjpgglajcelllaaDoor
end
/- For all inputs FrameWrites and FrameLimits return true. Conditions: the table's two cells, texts no longer than a text can be. -/
section
namespace Go.Proofs.YtjpgglajcelllaaDoor
open Go.RowKit
namespace Frm
open Dig Crc
theorem app_nil (s : ByteArray) : s ++ ⟨#[]⟩ = s := by
  apply bytes_ext
  rw [ByteArray.data_append]; simp
end Frm
end Go.Proofs.YtjpgglajcelllaaDoor
end
/- For all inputs FrameTells returns true. Conditions: the table's two cells, texts no longer than a text can be. -/
section
namespace Go.Proofs.YtjpgglajcelllaaDoor
open Go.RowKit
namespace Frm
open Dig Crc
end Frm
end Go.Proofs.YtjpgglajcelllaaDoor
end
/- Plain facts on rows of frames: all that are got from the front on, whatever the bytes; frames that are written one behind the other are got as they were, cut off anywhere those that are whole. Conditions: those that each lemma states. -/
section
namespace Go.Proofs.YtjpgglajcelllaaDoor
open Go.RowKit
namespace Frm
open Dig
/-! Frames that are written one behind the other. -/
end Frm
end Go.Proofs.YtjpgglajcelllaaDoor
end
/- What the document's own Scan returns: of any bytes all frames from the front on, how many bytes are theirs, and what stopped it. It leaves alone what was there before. Condition: a text of at most 1000000000 bytes. -/
section
namespace Go.Proofs.YtjpgglajcelllaaDoor
open Go.RowKit
namespace Frm
open Dig Crc
end Frm
end Go.Proofs.YtjpgglajcelllaaDoor
end
/- What the closure within frame.Scan returns that moves on behind each frame: the frame at the place that it captured, or an error; the place is behind it then. It leaves alone all else that was there before. Conditions: the table's two cells, a text of at most 1000000000 bytes. -/
section
namespace Go.Proofs.YtjpgglajcelllaaDoor
open Go.RowKit
namespace Frm
open Dig Crc
/-- What a call of the closure leaves. -/
def Next (g : Got) (m ba : Nat) (w : World) (e : Ending) (w' : World) : Prop :=
  e = .returned (.tuple #[.agg #[.int .i64 (g.kind : Int), .string g.data], .int .i64 (g.err : Int)]) ∧ w.grownBy w' (some ba) ∧ w'.heap[ba]? = some (.cells #[.int .i64 (((m + g.size : Nat)) : Int)] 3 (0, 0))
end Frm
end Go.Proofs.YtjpgglajcelllaaDoor
end
/- What frame.Scan returns: of any bytes all frames from the front on, how many bytes are theirs, and what stopped it. It leaves alone what was there before. Conditions: the table's two cells, a text of at most 1000000000 bytes. -/
section
namespace Go.Proofs.YtjpgglajcelllaaDoor
open Go.RowKit
namespace Frm
open Dig Crc
end Frm
end Go.Proofs.YtjpgglajcelllaaDoor
end
/- For all texts FrameReads returns true; what 'same' returns of two rows that hold the same frames. Conditions: the table's two cells, texts no longer than a text can be. -/
section
namespace Go.Proofs.YtjpgglajcelllaaDoor
open Go.RowKit
namespace Frm
open Dig Crc
/-- A slice value that stands at a block's head holds these cells. -/
def Holds (w : World) (A : Option Addr) (n : Nat) (xs : List Value) : Prop :=
  0 < n → ∃ b, A = some ⟨b, 0, none⟩ ∧ b < w.heap.size ∧ ∀ j u, xs[j]? = some u → w.cell? ⟨b, j, none⟩ = some u
theorem Holds.below {w w1 : World} {A : Option Addr} {n : Nat} {xs : List Value} (h : Holds w A n xs) (hb : Below w.heap.size w w1) : Holds w1 A n xs := fun hn => by
  obtain ⟨b, hA, hl, hc⟩ := h hn
  exact ⟨b, hA, Nat.lt_of_lt_of_le hl hb.size, fun j u hu => (hb.cell (p := ⟨b, j, none⟩) hl).trans (hc j u hu)⟩
end Frm
end Go.Proofs.YtjpgglajcelllaaDoor
end
/- Plain facts for FrameBack: of frames that are written one behind the other, which are whole ahead of a cut; where each ends. Conditions: those that each lemma states. -/
section
namespace Go.Proofs.YtjpgglajcelllaaDoor
open Go.RowKit
namespace Frm
open Dig
end Frm
end Go.Proofs.YtjpgglajcelllaaDoor
end
/- For all rows of frames and every cut FrameBack returns true. Conditions: the table's two cells; the row's cells read as frames. -/
section
namespace Go.Proofs.YtjpgglajcelllaaDoor
open Go.RowKit
namespace Frm
open Dig Crc
end Frm
end Go.Proofs.YtjpgglajcelllaaDoor
end
/- A row of frames among the arguments, opened: each cell holds what was read. No condition. -/
section
namespace Go.Proofs.YtjpgglajcelllaaDoor
open Go.RowKit Go.ChangeShapes Go.WideShapes
namespace Frm
end Frm
end Go.Proofs.YtjpgglajcelllaaDoor
end
