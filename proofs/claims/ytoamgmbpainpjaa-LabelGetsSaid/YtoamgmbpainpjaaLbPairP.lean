/- The program's labels (layer 10): getPair. -/
import Derived.Test.YtoamgmbpainpjaaLbRef4
import Derived.Test.YtoamgmbpainpjaaLbNam
set_option maxRecDepth 100000
namespace Go.Proofs.Ytoamgmbpainpjaa
open Go.RowKit Go.Sort
namespace Lb
open Bit Dsk Ob Dig
set_option linter.unusedVariables false

/-- digits.GetText, when it is known what is got. -/
theorem gettext_is {s : ByteArray} {m : Int} {n k x : Nat} (hs : s.size ≤ 4611686018427387904) (hm : m ≤ 9223372036854775807) (h : gotT s.data.toList m = (n, k, x)) (w : World) :
    Calls Try.prog 41 #[.string s, .int .i64 m] w fun e w' => e = .returned (.tuple #[.string (s.extract k (k + n)), .int .i64 ((k + n : Nat) : Int), .int .i64 (x : Int)]) ∧ Below w.heap.size w w' := by
  have := Dig.gettext_any s m (by omega) hm w
  rw [h] at this
  simp only at this
  rw [← Int.natCast_add] at this
  exact this
/-- What getPair answers: of no pair, of one. -/
def pairE (r : List UInt8) : Nat := if (txt 32 r).2.2 ≠ 0 then (txt 32 r).2.2 else (txt 64 (txt 32 r).2.1).2.2
set_option maxHeartbeats 3200000 in
theorem getpair_any (s : ByteArray) (hs : s.size ≤ 4611686018427387904) (w : World) :
    Calls Try.prog 34 #[.string s] w fun e w' => (∃ (a b : ByteArray) (k x : Nat) (r1 : List UInt8), e = .returned (.tuple #[.agg #[.string a, .string b], .int .i64 (k : Int), .int .i64 (x : Int)]) ∧
      ((x ≠ 0 ∧ ((∃ a', txt 32 s.data.toList = (a', r1, x)) ∨ ∃ a' b' r2, txt 32 s.data.toList = (a', r1, 0) ∧ txt 64 r1 = (b', r2, x))) ∨ (x = 0 ∧ k ≤ s.size ∧ txt 32 s.data.toList = (a, r1, 0) ∧ txt 64 r1 = (b, (s.extract k s.size).data.toList, 0)))) ∧ New0 w w' := by
  obtain ⟨n, k, x, hg⟩ : ∃ n k x, gotT s.data.toList 32 = (n, k, x) := ⟨_, _, _, rfl⟩
  have ht := txt_is hg
  have hkl := gotT_le hg
  rw [Array.length_toList, ByteArray.size_data] at hkl
  have HG := Lib.hid (fun w => gettext_is hs (by decide) hg w)
  obtain ⟨a, ha⟩ : ∃ a, s.extract k (k + n) = a := ⟨_, rfl⟩
  rw [ha] at ht HG
  obtain ⟨q, hq⟩ : ∃ q, k + n = q := ⟨_, rfl⟩
  rw [hq] at ht HG hkl
  clear hg ha hq
  by_cases hx : x = 0
  · subst hx
    obtain ⟨r, hr⟩ : ∃ r, s.extract q s.size = r := ⟨_, rfl⟩
    obtain ⟨n', k', x', hg'⟩ : ∃ n k x, gotT r.data.toList 64 = (n, k, x) := ⟨_, _, _, rfl⟩
    have ht' := txt_is hg'
    have hkl' := gotT_le hg'
    rw [Array.length_toList, ByteArray.size_data] at hkl'
    have hrs : r.size = s.size - q := by rw [← hr, ByteArray.size_extract]; omega
    have HG' := Lib.hid (fun w => gettext_is (s := r) (by omega) (by decide) hg' w)
    obtain ⟨b, hb⟩ : ∃ b, r.extract k' (k' + n') = b := ⟨_, rfl⟩
    rw [hb] at ht' HG'
    obtain ⟨q', hq'⟩ : ∃ q', k' + n' = q' := ⟨_, rfl⟩
    rw [hq'] at ht' HG' hkl'
    clear hg' hb hq'
    have hlast : (r.extract q' r.size).data.toList = (s.extract (q + q') s.size).data.toList := by
      rw [drop_list, ← hr, drop_list, drop_list, List.drop_drop]
    rw [hr] at ht
    rw [hlast] at ht'
    have hend := Lib.hid ht
    have hend' := Lib.hid ht'
    replace hr := Lib.hid hr
    clear ht ht' hlast
    by_cases hx' : x' = 0
    · subst hx'
      have hb0 : Boxed w.heap.size (.string ⟨#[]⟩) (.string ⟨#[]⟩) (w.alloc (.cells #[.string ⟨#[]⟩, .string ⟨#[]⟩] 39 (0, 0))) := Boxed.of (cell_new w _)
      have hNw := Lib.hid ((Upon.refl (fun _ => False) w).alloc (.cells #[.string ⟨#[]⟩, .string ⟨#[]⟩] 39 (0, 0)))
      replace hb0 := Lib.hid hb0
      have hsum : wrap64 ((q : Int) + (q' : Int)) = ((q + q' : Nat) : Int) := by unfold wrap64; omega
      go_enter Try.func34, Try.ntmps34
      go_wp2_with fail
      refine (HG.out _).mono ?_
      rintro e w2 ⟨rfl, hb2⟩
      clear HG
      go_wp2_with fail
      rw [hr.out]
      refine (HG'.out _).mono ?_
      rintro e w3 ⟨rfl, hb3⟩
      clear HG'
      have hbx := boxed_below (boxed_below hb0.out hb2) hb3
      have c0 := hbx.c0
      have c1 := hbx.c1
      have f0 := hbx.f0
      have f1 := hbx.f1
      obtain ⟨s1, s2, s3, s4⟩ := Boxed.set hbx (.string a) (.string b)
      have hN : Hid (New0 w ((w3.setCell ⟨w.heap.size, 0, none⟩ (.string a)).setCell ⟨w.heap.size, 1, none⟩ (.string b))) := Lib.hid (Upon.setCell (p := ⟨w.heap.size, 1, none⟩) (Upon.setCell (p := ⟨w.heap.size, 0, none⟩) (hNw.out.trans (newOf (Below.trans hb2 (hb3.mono hb2.size)))) (.inr (Nat.le_refl _)) _) (.inr (Nat.le_refl _)) _)
      clear hbx hNw
      go_wp2_with fail
      refine bodyPost_ret (v := .tuple #[.agg #[.string a, .string b], .int .i64 ((q + q' : Nat) : Int), .int .i64 0]) (by simp [results, Try.results34, go_sem, s3, s4]) rfl ?_
      exact ⟨⟨a, b, q + q', 0, r.data.toList, rfl, .inr ⟨rfl, by omega, hend.out, hend'.out⟩⟩, hN.out⟩
    · have dx : ((x' : Int) != 0) = true := by rw [bne_iff_ne]; omega
      have hb0 : Boxed w.heap.size (.string ⟨#[]⟩) (.string ⟨#[]⟩) (w.alloc (.cells #[.string ⟨#[]⟩, .string ⟨#[]⟩] 39 (0, 0))) := Boxed.of (cell_new w _)
      have hNw := Lib.hid ((Upon.refl (fun _ => False) w).alloc (.cells #[.string ⟨#[]⟩, .string ⟨#[]⟩] 39 (0, 0)))
      replace hb0 := Lib.hid hb0
      replace hx' := Lib.hid hx'
      go_enter Try.func34, Try.ntmps34
      go_wp2_with fail
      refine (HG.out _).mono ?_
      rintro e w2 ⟨rfl, hb2⟩
      clear HG
      go_wp2_with fail
      rw [hr.out]
      refine (HG'.out _).mono ?_
      rintro e w3 ⟨rfl, hb3⟩
      clear HG'
      have hbx := boxed_below (boxed_below hb0.out hb2) hb3
      have c0 := hbx.c0
      have c1 := hbx.c1
      have f0 := hbx.f0
      have f1 := hbx.f1
      obtain ⟨s1, s2, s3, s4⟩ := Boxed.set hbx (.string ⟨#[]⟩) (.string ⟨#[]⟩)
      have hN : Hid (New0 w ((w3.setCell ⟨w.heap.size, 0, none⟩ (.string ⟨#[]⟩)).setCell ⟨w.heap.size, 1, none⟩ (.string ⟨#[]⟩))) := Lib.hid (Upon.setCell (p := ⟨w.heap.size, 1, none⟩) (Upon.setCell (p := ⟨w.heap.size, 0, none⟩) (hNw.out.trans (newOf (Below.trans hb2 (hb3.mono hb2.size)))) (.inr (Nat.le_refl _)) _) (.inr (Nat.le_refl _)) _)
      clear hbx hNw
      go_wp2_with fail
      refine bodyPost_ret (v := .tuple #[.agg #[.string ⟨#[]⟩, .string ⟨#[]⟩], .int .i64 0, .int .i64 (x' : Int)]) (by simp [results, Try.results34, go_sem, s3, s4]) rfl ?_
      exact ⟨⟨⟨#[]⟩, ⟨#[]⟩, 0, x', r.data.toList, rfl, .inl ⟨hx'.out, .inr ⟨a, b, _, hend.out, hend'.out⟩⟩⟩, hN.out⟩
  · have dx : ((x : Int) != 0) = true := by rw [bne_iff_ne]; omega
    have hb0 : Boxed w.heap.size (.string ⟨#[]⟩) (.string ⟨#[]⟩) (w.alloc (.cells #[.string ⟨#[]⟩, .string ⟨#[]⟩] 39 (0, 0))) := Boxed.of (cell_new w _)
    have hNw := Lib.hid ((Upon.refl (fun _ => False) w).alloc (.cells #[.string ⟨#[]⟩, .string ⟨#[]⟩] 39 (0, 0)))
    replace hb0 := Lib.hid hb0
    replace hx := Lib.hid hx
    replace ht := Lib.hid ht
    go_enter Try.func34, Try.ntmps34
    go_wp2_with fail
    refine (HG.out _).mono ?_
    rintro e w2 ⟨rfl, hb2⟩
    clear HG
    have hbx := boxed_below hb0.out hb2
    have c0 := hbx.c0
    have c1 := hbx.c1
    have f0 := hbx.f0
    have f1 := hbx.f1
    obtain ⟨s1, s2, s3, s4⟩ := Boxed.set hbx (.string ⟨#[]⟩) (.string ⟨#[]⟩)
    have hN : Hid (New0 w ((w2.setCell ⟨w.heap.size, 0, none⟩ (.string ⟨#[]⟩)).setCell ⟨w.heap.size, 1, none⟩ (.string ⟨#[]⟩))) := Lib.hid (Upon.setCell (p := ⟨w.heap.size, 1, none⟩) (Upon.setCell (p := ⟨w.heap.size, 0, none⟩) (hNw.out.trans (newOf hb2)) (.inr (Nat.le_refl _)) _) (.inr (Nat.le_refl _)) _)
    clear hbx hNw
    go_wp2_with fail
    refine bodyPost_ret (v := .tuple #[.agg #[.string ⟨#[]⟩, .string ⟨#[]⟩], .int .i64 0, .int .i64 (x : Int)]) (by simp [results, Try.results34, go_sem, s3, s4]) rfl ?_
    exact ⟨⟨⟨#[]⟩, ⟨#[]⟩, 0, x, _, rfl, .inl ⟨hx.out, .inl ⟨a, ht.out⟩⟩⟩, hN.out⟩
end Lb
end Go.Proofs.Ytoamgmbpainpjaa
